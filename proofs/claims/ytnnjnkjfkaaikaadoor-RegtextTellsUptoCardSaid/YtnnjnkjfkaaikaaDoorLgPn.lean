import Derived.Test.YtnnjnkjfkaaikaaDoorLgW
set_option linter.all false
set_option maxRecDepth 100000
namespace Go.Lift
noncomputable section
structure PnRes where
 X:Type
 val:Option X
 out:X->Dat
abbrev PnT:=FuncId->Option (TypeId×(List A->PnRes))
def zln (ty:TypeId)(d:Dat):List PanicEntry:=[{ v:=.iface ty (zv d.1 d.2),recovered:=false }]
def ContractP (P:Program)(glob:Nat->Option Dat)(f:FuncId)(ty:TypeId)(g:List A->PnRes):Prop :=
 (∃ fn, P.funcs[f]? = some fn /\ fn.body.isSome = true /\ fn.name ≠ "runtime.NumGoroutine") ∧
 ∀ (w:World) (S:Hp) (args:List A) (vals:List Value) (ob:Nat->List Nat),ArgsRel (hp w) S args vals ob->Sub S (hp w)->GlobOk glob S →
 ∀ x,(g args).val=some x->Calls P f vals.toArray w fun e w'=>e=.panicked (zln ty ((g args).out x))/\WF w (fun b=>∃ i,b∈ob i) w'/\Sub S (hp w')
def PnOk (P:Program)(glob:Nat->Option Dat)(Pn:PnT):Prop:=∀ f ty g,Pn f=some (ty,g)->ContractP P glob f ty g
def orP {α β:Type}(o:Option α)(f:α->Option β)(g:Option β):Option β:=match o with
 | some x=>f x
 | none=>g
def zsa (Pn:PnT) (o:Oper):Option (TypeId×(List A->PnRes)×List Operand):=match o.guard with
 | some _=>none
 | none=>match o.op with
   | .call k=>(match k.callee with
     | .value (.func f)=>(match Pn f with
       | some (ty,g)=>some (ty,g,k.args.toList)
       | none=>none)
     | _=>none)
   | _=>none
def zka (E:Env)(xs:List Operand):Cmd (List A):=znk E [] xs 0 fun l b=>match zys b with
 | true=>.ret l
 | false=>.fail
def z1dk {β:Type} (E:Env) (Pn:PnT) (all:Array Oper):List Oper->List A->(List A->Option β)->(TypeId->Dat->Option β)->Option β
 | [],st,K,_=>K st
 | o::r,st,K,KP=>match zsa Pn o with
   | none=>(z3j E all o).cps E st fp0 fun _ st' _=>z1dk E Pn all r st' K KP
   | some (ty,g,xs)=>(zka E xs).cps E st fp0 fun l _ _=>orP (g l).val (fun x=>KP ty ((g l).out x)) ((z3j E all o).cps E st fp0 fun _ st' _=>z1dk E Pn all r st' K KP)
def zwf (n:Nat)(p:Nat->Bool):Bool:=(List.range n).all p
def zla (ops:List Oper) (fps:List FP) (fq:FP):Bool :=
 z20 (zs7 0 ops) (z20 (zzg fps.length (zyo ops fps (zp2 ops [])))
  (z20 (zwf fps.length fun i=>match zf4 (fps.getD i fp0) fq with
   | false=>true
   | true=>((zp2 ops []).getD fps.length 0).testBit i)
  (zwf ops.length fun i=>match Nat.ble i fps.length with
   | true=>true
   | false=>((zp2 ops []).getD i 0).testBit fps.length)))
def zuw {β:Type} (E:Env) (Pn:PnT) (all:Array Oper):List Oper->List FP->List A->(List A->Option β)->(TypeId->Dat->Option β)->Option β
 | [],fps,st,K,_=>(match zrk all.toList fps with
   | true=>K st
   | false=>none)
 | o :: r,fps,st,K,KP=>match zsa Pn o with
   | none=>(z3j E all o).cps E st fp0 fun _ st' fp=>zuw E Pn all r (fps.append [fp]) st' K KP
   | some (ty,g,xs)=>(zka E xs).cps E st fp0 fun l _ fq=>match zla all.toList fps fq with
     | true=>orP (g l).val (fun x=>KP ty ((g l).out x)) ((z3j E all o).cps E st fp0 fun _ st' fp=>zuw E Pn all r (fps.append [fp]) st' K KP)
     | false=>none
inductive ExP where
 | normal|exit (id:Nat)|ret|pan (ty:TypeId)
def ExP.exit' (e:ExP) (st:List A):Exit:=match e with
 | .normal=>.normal
 | .exit id=>.exit id
 | .ret=>.ret
 | .pan ty=>match st with
   | [.v t x]=>.panic (zln ty ⟨t,x⟩)
   | _=>.panic []
def zsw (n:Nat):List A:=List.replicate n .dead
@[reducible] def z1r2 (c:Ctx) (e:ExP) (st:List A) (a:Act) (w:World):Prop:=match e with
 | .pan _=>∃ n,Sim c (zsw n) a w
 | _=>Sim c st a w
abbrev HdP (β:Type):=List A->(ExP->List A->Option β)->Option β
abbrev zcp (β:Type):=List (List Nat×HdP β)
def zhc {β:Type}:zcp β->List Nat->Option (HdP β)
 | [],_=>none
 | e::r,p=>match eqL e.1 p with
   | true=>some e.2
   | false=>zhc r p
def z171 {β:Type}(o:Option (HdP β))(f:HdP β):HdP β:=match o with
 | some h=>h
 | none=>f
def z17f {β:Type}(L:List (List Nat×List Nat))(p:List Nat)(K:ExP->List A->Option β):ExP->List A->Option β:=fun e st=>match e with
 | .normal=>K .normal (rs L p st)
 | e=>K e st
def zn2 {β:Type} (live:List Nat) (f:HdP β):Nat->List A->(ExP->List A->Option β)->Option β
 | 0,_,_=>none
 | n+1,st,K=>f st fun e st'=>match e with
   | .normal=>zn2 live f n (restr live 0 st') K
   | e=>K e st'
def evP {β:Type} (E:Env) (Pn:PnT) (N:Nat) (H:zcp β) (L:List (List Nat×List Nat)) (p:List Nat):Code->List A->(ExP->List A->Option β)->Option β
 | .skip,st,K=>K .normal (rs L p st)
 | .region _ ops draw,st,K=>match draw with
   | false=>z1dk E Pn ops ops.toList st (fun st=>K .normal (rs L p st)) (fun ty d=>K (.pan ty) [.v d.1 d.2])
   | true=>zuw E Pn ops ops.toList [] st (fun st=>K .normal (rs L p st)) (fun ty d=>K (.pan ty) [.v d.1 d.2])
 | .seq a b,st,K=>z171 (zhc H (0::p)) (evP E Pn N H L (0::p) a) st fun e st=>match e with
   | .normal=>z171 (zhc H (1::p)) (evP E Pn N H L (1::p) b) st K
   | e=>K e st
 | .cond x a b,st,K=>(rdK E x fun v=>(.ret v:Cmd A)).cps E st fp0 fun v _ _=>match v with
   | .v .bool t=>cond t (z171 (zhc H (0::p)) (evP E Pn N H L (0::p) a) st (z17f L p K)) (z171 (zhc H (1::p)) (evP E Pn N H L (1::p) b) st (z17f L p K))
   | _=>none
 | .block id a,st,K=>z171 (zhc H (0::p)) (evP E Pn N H L (0::p) a) st fun e st=>match e with
   | .normal=>K .normal (rs L p st)
   | .exit j=>(match Nat.beq j id with
     | true=>K .normal (rs L p st)
     | false=>K (.exit j) st)
   | e=>K e st
 | .loop a,st,K=>zn2 (zua L p) (z171 (zhc H (0::p)) (evP E Pn N H L (0::p) a)) N (restr (zua L p) 0 st) K
 | .exit id,st,K=>K (.exit id) (rs L p st)
 | .scope a,st,K=>z171 (zhc H (0::p)) (evP E Pn N H L (0::p) a) st K
 | .label _,st,K=>K .normal st
 | .ret,st,K=>K .ret (rs L p st)
 | _,_,_=>none
def z22 {β:Type}(P:Program)(c:Ctx)(k:Code)(f:HdP β):Prop :=
 ∀ (st:List A) (K:ExP->List A->Option β) (y:β),f st K=some y->∃ e st',K e st'=some y ∧
 ∀ (Q:Exit->Act->World->Prop) (a:Act) (w:World),Sim c st a w->(∀ a' w',z1r2 c e st' a' w'->Q (e.exit' st') a' w')->k.wp P Q a w
def TabOkP {β:Type}(P:Program)(c:Ctx)(body:Code)(H:zcp β):Prop:=∀ q h,zhc H q=some h->z22 P c (zf body q) h
section
variable {P:Program} {E:Env} {Pn:PnT} {c:Ctx} {st st':List A} {fp fp':FP} {a:Act} {w w':World} {S:Hp} {ob:Nat->List Nat} {o:Oper}
theorem zmz {ty:TypeId} {g:List A->PnRes} {xs:List Operand} {l:List A} {st1:List A} {fp1:FP} (hb:Base P E c) (hP:PnOk P E.glob Pn) (ho:zsa Pn o=some (ty,g,xs))
 (h:zm E (zka E xs) st fp0=some (l,st1,fp1)) {x:(g l).X} (hx:(g l).val=some x) (hs:Sim c st a w) {ρ:Option Nat} {next:Act->World->Prop} {Q:Exit->Act->World->Prop}
 (hq:∀ w',(∃ n,Sim c (zsw n) a w')->Q (.panic (zln ty ((g l).out x))) a w'):o.wpIn (FR ρ) 0 P a w next Q:=by
 unfold zsa at ho;split at ho
 . cases ho
 rename_i hgd;split at ho
 rotate_left
 . cases ho
 rename_i k hop;split at ho
 rotate_left
 . cases ho
 rename_i f hc;split at ho
 rotate_left
 . cases ho
 rename_i ty' g' hpn;simp only[Option.some.injEq,Prod.mk.injEq] at ho;obtain⟨rfl,rfl,rfl⟩:=ho;obtain⟨⟨fn,hf,hbody,hname⟩,hcon⟩:=hP _ _ _ hpn;obtain⟨S,ob,hs⟩:=hs;have hnd:∀ j,o.op ≠ .defer j:=by rw[hop];simp
 have henter:(execOp a.eval o).run P w=.ok (.enter f (k.args.toList.map a.eval).toArray) w:=by
  have hargs:k.args.map a.eval=(k.args.toList.map a.eval).toArray:=by apply Array.toList_inj.1;simp
  have hbn:fn.body≠none:=by intro e;rw[e] at hbody;simp at hbody
  have hv:a.eval (.func f)=.func (.func f) #[] #[]:=rfl;simp[execOp,hop,resolve,hc,hv,Deferred.ofValue,invoke,callFunc,hf,hbn,hname,hargs]
 unfold zka at h;obtain⟨l0,b,st2,fp2,S1,ob1,h1,hs1,hev,hl⟩:=zim hb [] _ _ _ _ _ _ _ h hs;split at h1
 rotate_left
 . exact (z6 h1).elim
 rename_i hndp;have h2:=z5j h1;simp only[Prod.mk.injEq] at h2;obtain⟨rfl,rfl,_⟩:=h2;simp only[List.map_nil,List.append_nil] at hl;have hnd':=zkb hndp;obtain⟨hlen,hpl,hrel,hback⟩:=hl.places;have hargs:ArgsRel (hp w) S1 l (k.args.toList.map a.eval) (obA b ob1):=by
  refine⟨hlen,?_,?_,?_,?_,?_⟩
  . intro i x hx;obtain⟨v,hv,hxr,hcase⟩:=hrel i x hx;refine⟨⟨v,hv,?_⟩,hxr⟩;rw[Nat.zero_add] at hcase;rcases hcase with⟨s,t,z,rfl,rfl,hst,hfind⟩|⟨_,hfind,har⟩
    . have e:obA b ob1 i=ob1 s:=by unfold obA;rw[hfind]
      rw[e];exact (hs1.rel s _ hst).mono (Sub.refl _) (fun _ _=>rfl) (fun r hr=>by simp[A.refs] at hr)
    . rw[zyq hfind];exact har _ _
  . intro i hi;cases ho:obA b ob1 i with
    | nil=>rfl
    | cons k ks =>
      obtain⟨p,hp',hpi,_⟩:=z4e (b:=b) (ob:=ob1) (i:=i) (k:=k) (by rw[ho];simp);have:=(hpl p hp').2;omega
  . intro i j k hi hj;obtain⟨p,hp',hpi,hpk⟩:=z4e hi;obtain⟨q,hq',hqj,hqk⟩:=z4e hj;have hpq:=hs1.inj _ _ _ hpk hqk;have:p=q:=zcw hnd' hp' hq' hpq;rw[<- hpi,<- hqj,this]
  . intro i;unfold obA;split
    . exact hs1.nd _
    . exact .nil
  . intro i k hi;obtain⟨p,hp',hpi,hpk⟩:=z4e hi;exact hs1.hid _ _ hpk
 have hcalls:=hcon w S1 l _ _ hargs hs1.sub (hb.globS hs1) x hx;refine⟨fun _ _=>trivial,?_⟩;rw[Oper.semAt_eq _ _ _ hnd,henter];simp only[Oper.uponIn];refine⟨fun hd=>by simp[FR,Fence.wide] at hd,zrm (hcalls.mono ?_)⟩;rintro e w' ⟨rfl,hwf,hsub⟩;refine hq w' ⟨st1.length,S1,fun _=>[],?_⟩;have hsame:∀ k,k<w.heap.size->(∀ i,k∉ob1 i)->hp w' k=hp w k:=by
  intro k hk hno;have:=hwf.same k hk (by rintro⟨j,hj⟩;obtain⟨p,hp',_,hpk⟩:=z4e hj;exact hno p.1 hpk);simpa[hp] using this
 refine⟨hs1.defers.turn fun D h1 h2 h3 h4=>⟨?_,h2,fun i hi=>by cases hi⟩,(by rw[hs1.size];simp[zsw]),?_,?_,fun _ _=>rfl,fun i j b hi=>(by cases hi),fun _=>.nil,fun i b hi=>(by cases hi),hsub,hs1.mono,fun i b hi=>(by cases hi),hs1.newS,hs1.lent,hs1.frame.trans hwf ?_⟩
 . rw[hsame D (z72 h1) h3];exact h1
 . intro i x hx;have:x=.dead:=by
    simp only[zsw,List.getElem?_replicate] at hx;split at hx
    . simpa using hx.symm
    . cases hx
   subst this;rfl
 . intro i x r hx hr;have:x=.dead:=by
    simp only[zsw,List.getElem?_replicate] at hx;split at hx
    . simpa using hx.symm
    . cases hx
   subst this;cases hr
 . rintro k ⟨j,hj⟩;obtain⟨p,_,_,hpk⟩:=z4e hj;exact hs1.fresh _ _ hpk
theorem zou {r:TypeId×(List A->PnRes)×List Operand}(h:zsa Pn o=some r):o.guard=none:=by
 unfold zsa at h;split at h
 . cases h
 . assumption
theorem zsc {α β:Type}{o:Option α}{f:α->Option β}{g:Option β}{y:β}(h:orP o f g=some y):(∃ x,o=some x/\f x=some y)\/(o=none/\g=some y):=by
 cases o with
 | none=>exact .inr ⟨rfl,h⟩
 | some x=>exact .inl ⟨x,rfl,h⟩
theorem zqs {β:Type} {all:Array Oper} (hb:Base P E c) (hP:PnOk P E.glob Pn) {y:β}:∀ (l:List Oper) (st:List A) (K:List A->Option β) (KP:TypeId->Dat->Option β),z1dk E Pn all l st K KP=some y →
 (∃ st',K st'=some y/\∀ (ρ:Option Nat) (Q:Exit->Act->World->Prop) (a:Act) (w:World),Sim c st a w->(∀ a' w',Sim c st' a' w'->Q .normal a' w')->wpListIn (FR ρ) 0 P all Q l a w) ∨
 (∃ ty d,KP ty d=some y/\∀ (ρ:Option Nat) (Q:Exit->Act->World->Prop) (a:Act) (w:World),Sim c st a w->(∀ a' w',(∃ n,Sim c (zsw n) a' w')->Q (.panic (zln ty d)) a' w')->wpListIn (FR ρ) 0 P all Q l a w)
 | [],st,K,KP,h=>.inl ⟨st,h,fun ρ Q a w hs hq=>hq a w hs⟩
 | o :: r,st,K,KP,h=>by
   have norm:(z3j E all o).cps E st fp0 (fun _ st' _=>z1dk E Pn all r st' K KP)=some y →
    (∃ st',K st'=some y/\∀ (ρ:Option Nat) (Q:Exit->Act->World->Prop) (a:Act) (w:World),Sim c st a w->(∀ a' w',Sim c st' a' w'->Q .normal a' w')->wpListIn (FR ρ) 0 P all Q (o::r) a w) ∨
    (∃ ty d,KP ty d=some y/\∀ (ρ:Option Nat) (Q:Exit->Act->World->Prop) (a:Act) (w:World),Sim c st a w->(∀ a' w',(∃ n,Sim c (zsw n) a' w')->Q (.panic (zln ty d)) a' w')->wpListIn (FR ρ) 0 P all Q (o::r) a w):=by
    intro h;obtain⟨_,st1,fp1,h1,h2⟩:=z1m h;have one:∀ (ρ:Option Nat) (Q:Exit->Act->World->Prop) (a:Act) (w:World),Sim c st a w->(∀ a' w',Sim c st1 a' w'->wpListIn (FR ρ) 0 P all Q r a' w')->wpListIn (FR ρ) 0 P all Q (o::r) a w:=by
     intro ρ Q a w hs hq;have hg:=zg3 h1 hb hs;unfold wpListIn;split
     . rename_i hw;rw[if_pos hw] at hg;exact Oper.wpIn_mono (fun a' w' hs'=>hq a' w' hs') (hg ρ Q)
     . rename_i hw;rw[if_neg hw] at hg;exact⟨fun _ _=>trivial,hq _ _ hg⟩
    rcases zqs hb hP r st1 K KP h2 with⟨st',hK,hw⟩|⟨ty,d,hK,hw⟩
    . exact .inl ⟨st',hK,fun ρ Q a w hs hq=>one ρ Q a w hs fun a' w' hs'=>hw ρ Q a' w' hs' hq⟩
    . exact .inr ⟨ty,d,hK,fun ρ Q a w hs hq=>one ρ Q a w hs fun a' w' hs'=>hw ρ Q a' w' hs' hq⟩
   simp only[z1dk] at h;split at h
   . exact norm h
   . rename_i ty g xs hpo;obtain⟨l,st1,fp1,h1,h2⟩:=z1m h;rcases zsc h2 with⟨x,hx,hK⟩|⟨_,h3⟩
     . refine .inr ⟨ty,_,hK,fun ρ Q a w hs hq=>?_⟩;unfold wpListIn;rw[if_pos (by simp[Region.wanted,zou hpo])];exact zmz hb hP hpo h1 hx hs fun w' hw'=>hq a w' hw'
     . exact norm h3
theorem zuv {β:Type} {all:Array Oper} {y:β}:∀ (l:List Oper) (fps0:List FP) (st:List A) (K:List A->Option β) (KP:TypeId->Dat->Option β),zuw E Pn all l fps0 st K KP=some y →
 (∃ fps st',Run E all l fps st st'/\K st'=some y/\zrk all.toList (fps0++fps)=true) ∨
 (∃ l1 o l2 fps st' ty g xs la st2 fq x,l=l1++o::l2/\Run E all l1 fps st st'/\zsa Pn o=some (ty,g,xs)/\zm E (zka E xs) st' fp0=some (la,st2,fq)/\zla all.toList (fps0++fps) fq=true/\(g la).val=some x/\KP ty ((g la).out x)=some y)
 | [],fps0,st,K,KP,h=>by
   simp only[zuw] at h;split at h
   . rename_i hd;exact .inl ⟨[],st,.nil,h,by simpa using hd⟩
   . cases h
 | o :: l,fps0,st,K,KP,h=>by
   have norm:(z3j E all o).cps E st fp0 (fun _ st' fp=>zuw E Pn all l (fps0.append [fp]) st' K KP)=some y →
    (∃ fps st',Run E all (o::l) fps st st'/\K st'=some y/\zrk all.toList (fps0++fps)=true) ∨
    (∃ l1 o' l2 fps st' ty g xs la st2 fq x,o::l=l1++o'::l2/\Run E all l1 fps st st'/\zsa Pn o'=some (ty,g,xs)/\zm E (zka E xs) st' fp0=some (la,st2,fq)/\zla all.toList (fps0++fps) fq=true/\(g la).val=some x/\KP ty ((g la).out x)=some y):=by
    intro h;obtain⟨_,st1,fp1,h1,h2⟩:=z1m h;rcases zuv l _ st1 K KP h2 with⟨fps,st',hr,hK,hd⟩|⟨l1,o',l2,fps,st',ty,g,xs,la,st2,fq,x,e,hr,k1,k2,k3,k4,k5⟩
    . exact .inl ⟨fp1::fps,st',.cons h1 hr,hK,by simpa using hd⟩
    . exact .inr ⟨o::l1,o',l2,fp1::fps,st',ty,g,xs,la,st2,fq,x,by rw[e];rfl,.cons h1 hr,k1,k2,by simpa using k3,k4,k5⟩
   simp only[zuw] at h;split at h
   . exact norm h
   . rename_i ty g xs hpo;obtain⟨la,st1,fq,h1,h2⟩:=z1m h;split at h2
     . rename_i hok;rcases zsc h2 with⟨x,hx,hK⟩|⟨_,h3⟩
       . exact .inr ⟨[],o,l,[],st,ty,g,xs,la,st1,fq,x,rfl,.nil,hpo,h1,by simpa using hok,hx,hK⟩
       . exact norm h3
     . cases h2
theorem z16d {α β:Type}{k1:Cmd α}{k2:Cmd β}{x1:α}{x2:β}{st st1 st2:List A}{f1 f2:FP}(h1:zm E k1 st fp0=some (x1,st1,f1))(h2:zm E k2 st1 fp0=some (x2,st2,f2))(hc:zf4 f1 f2=false) :
 ∃ st1',zm E k2 st fp0=some (x2,st1',f2)/\zm E k1 st1' fp0=some (x1,st2,f1):=by
 obtain⟨a1,a2,c1,c2,c3⟩:=zjp hc;obtain⟨_,_,l1,s1,q1,fr1⟩:=frame k1 st fp0 _ h1 a1;obtain⟨_,_,l2,s2,q2,fr2⟩:=frame k2 st1 fp0 _ h2 a2;dsimp only at l1 s1 q1 fr1 l2 s2 q2 fr2;obtain⟨st1',g1,g2,g3,g4⟩:=fr2 st l1.symm (fun t ht=>by
  rcases ht with ht|ht
  . exact (s1 t (fun hw=>c1 t hw ht)).symm
  . cases ht) (fun t ht c i=>(q1 t (c3 t ht) c i).symm)
 obtain⟨_,_,_,_,q3,_⟩:=frame k2 st fp0 _ g1 a2;dsimp only at q3;obtain⟨st2',k1',k2',k3,k4⟩:=fr1 st1' (by omega) (fun t ht=>by
  rcases ht with ht|ht
  . exact g4 t (fun hw=>c3 t hw ht)
  . cases ht) (fun t ht c i=>q3 t (c1 t ht) c i)
 refine⟨st1',g1,?_⟩;have:st2'=st2:=by
  apply List.ext_getElem?;intro t;by_cases ht1:t∈f1.wr
  . rw[k3 t ht1,s2 t (c2 t ht1)]
  . rw[k4 t ht1];by_cases ht2:t∈f2.wr
    . exact g3 t ht2
    . rw[g4 t ht2,s2 t ht2,s1 t ht1]
 rw[this] at k1';exact k1'
theorem z12e {all:Array Oper}{fps:List FP}{α:Type}{k:Cmd α}{x:α}{fq:FP}:∀ {l:List Nat} {st st':List A},RunI E all fps l st st'->(∀ i∈l,zf4 (fps.getD i fp0) fq=false)->∀ {st2:List A},zm E k st' fp0=some (x,st2,fq)->∃ st2',zm E k st fp0=some (x,st2',fq):=by
 intro l st st' h
 induction h with
 | nil=>intro _ st2 h2;exact⟨_,h2⟩
 | cons ho h hr ih =>
   intro hc st2 h2;obtain⟨st3,h3⟩:=ih (fun i hi=>hc i (List.mem_cons_of_mem _ hi)) h2;obtain⟨st4,h4,_⟩:=z16d h h3 (hc _ (by simp));exact⟨st4,h4⟩
theorem zr7 {n:Nat}{p:Nat->Bool}(h:zwf n p=true){i:Nat}(hi:i<n):p i=true:=List.all_eq_true.1 h i (by simpa using hi)
theorem zud {n i:Nat}{listed:Array Bool}(hi:i<n)(hl:listed.getD i true=false) :
 ∃ l1 l2,left n listed=l1++i::l2/\left n (listed.setIfInBounds i true)=l1++l2/\∀ j∈l1,j<i:=by
 have hsplit:List.range n=List.range i++i::(List.range' (i+1) (n - i - 1)):=by
  have h1:List.range n=List.range' 0 i++List.range' i (n - i):=by
   rw[List.range_eq_range'];have:=List.range'_append_1 (s:=0) (m:=i) (n:=n - i);rw[Nat.zero_add] at this;rw[this];congr 1;omega
  rw[h1,<- List.range_eq_range'];congr 1;obtain⟨k,hk⟩:∃ k,n - i=k+1:=⟨n - i - 1,by omega⟩
  rw[hk,List.range'_succ];simp
 have hget:∀ j,j≠i->(listed.setIfInBounds i true).getD j true=listed.getD j true:=by
  intro j hj;simp[Array.getD_eq_getD_getElem?,Array.getElem?_setIfInBounds_ne (Ne.symm hj)]
 have hgi:(listed.setIfInBounds i true).getD i true=true:=by
  simp[Array.getD_eq_getD_getElem?]
 refine⟨(List.range i).filter fun j=>!listed.getD j true,(List.range' (i+1) (n - i - 1)).filter fun j=>!listed.getD j true,?_,?_,?_⟩
 . unfold left;rw[hsplit,List.filter_append,List.filter_cons,if_pos (by simp[hl])]
 . unfold left;rw[hsplit,List.filter_append,List.filter_cons,if_neg (by simp[hgi])];congr 1
   . apply List.filter_congr;intro j hj;rw[hget j (by simp at hj;omega)]
   . apply List.filter_congr;intro j hj;rw[hget j (by simp[List.mem_range'] at hj;omega)]
 . intro j hj;simp at hj;exact hj.1
theorem z112 {ρ : Option Nat} {all:Array Oper} {Q:Exit->Act->World->Prop} {fps:List FP} {st':List A} (hb:Base P E c) (hP:PnOk P E.glob Pn) {j:Nat} {oj:Oper} (hj:all[j]?=some oj) (hjl:fps.length=j)
 {ty:TypeId} {g:List A->PnRes} {xs:List Operand} {la st2:List A} {fq:FP} (hpo:zsa Pn oj=some (ty,g,xs)) (hargs:zm E (zka E xs) st' fp0=some (la,st2,fq)) {x:(g la).X} (hx:(g la).val=some x)
 (hok:zla all.toList fps fq=true) (hq:∀ a w,(∃ n,Sim c (zsw n) a w)->Q (.panic (zln ty ((g la).out x))) a w) :
 ∀ (fuel:Nat) (listed:Array Bool) (st:List A) (a:Act) (w:World),listed.size=all.size->(left all.size listed).length<=fuel →
   (∀ j o,all[j]?=some o->listed.getD j false=true->∀ k∈zk5 o,listed.getD k false=true)->listed.getD j true=false →
   RunI E all fps (left j listed) st st'->Sim c st a w->wpAnyIn (FR ρ) 0 P .any all Q fuel listed a w:=by
 obtain⟨hpo',hok⟩:=za hok;obtain⟨hpairs,hok⟩:=za hok;obtain⟨hbefore,hbehind⟩:=za hok;have hpred:=zi3 hpo';have hjs:j<all.size:=by
  rcases Nat.lt_or_ge j all.size with h|h
  . exact h
  . simp[Array.getElem?_eq_none h] at hj
 have hmem:∀ listed:Array Bool,listed.size=all.size->listed.getD j true=false->j∈left all.size listed:=fun listed hsz h=>zgp.2 ⟨hjs,h⟩
 have hanc:∀ i k,((zp2 all.toList []).getD i 0).testBit k=true->Anc all.toList k i:=by
  intro i k hbit;cases hm:(zp2 all.toList [])[i]? with
  | none=>simp[List.getD,hm] at hbit
  | some m=>exact zmb all.toList all.toList [] ⟨[],rfl,rfl⟩ (fun j m i hj _=>by simp at hj) i m k hm (by simpa[List.getD,hm] using hbit)
 have hset:∀ (listed:Array Bool) (i:Nat),listed.size=all.size->i<all.size->∀ k,listed.getD k false=true->(listed.setIfInBounds i true).getD k false=true:=by
  intro listed i hsz hil k hk;by_cases e:i=k
  . subst e;simp[Array.getD_eq_getD_getElem?,show i<listed.size by omega]
  . simpa[Array.getD_eq_getD_getElem?,Array.getElem?_setIfInBounds_ne e] using hk
 intro fuel
 induction fuel with
 | zero =>
   intro listed st a w hsz hlen hcl hlj hrun hs;have:=hmem listed hsz hlj;rw[List.length_eq_zero_iff.1 (by omega:(left all.size listed).length=0)] at this;cases this
 | succ fuel ih =>
   intro listed st a w hsz hlen hcl hlj hrun hs;refine⟨fun hr=>?_,fun i hi=>?_⟩
   . -- the least one that is left is ready
     exfalso;have hne:∃ i,i<all.size/\listed.getD i true=false/\∀ k,k<i->listed.getD k true=true:=by
      have:∀ n,n<all.size->listed.getD n true=false->∃ i,i<all.size/\listed.getD i true=false/\∀ k,k<i->listed.getD k true=true:=by
       intro n
       induction n using Nat.strongRecOn with
       | _ n ihn =>
         intro hn hl;by_cases hex:∃ k,k<n/\listed.getD k true=false
         . obtain⟨k,hk,hlk⟩:=hex;exact ihn k hk (by omega) hlk
         . refine⟨n,hn,hl,fun k hk=>?_⟩;cases hlk:listed.getD k true with
           | true=>rfl
           | false=>exact absurd ⟨k,hk,hlk⟩ hex
      exact this j hjs hlj
     obtain⟨i,hi,hil,hmin⟩:=hne;have:i∈Region.ready .any all listed:=by
      refine zi2.2 ⟨hi,hil,all[i],Array.getElem?_eq_getElem hi,fun k hk=>?_⟩;have hki:=hpred i all[i] (by rw[Array.getElem?_toList];exact Array.getElem?_eq_getElem hi) k hk;have:=hmin k (by omega);have hks:k<listed.size:=by omega
      simpa[Array.getD_eq_getD_getElem?,hks] using this
     rw[hr] at this;cases this
   . obtain⟨hil,hl,o,ho,hp⟩:=zi2.1 hi;have ancL:∀ k,Anc all.toList k i->listed.getD k false=true:=fun k hk=>zrp hcl hk (fun o' ho' k hk=>by rw[ho] at ho';cases ho';exact hp k hk)
     have notL:∀ k,k<all.size->listed.getD k false=true->listed.getD k true=true:=by
      intro k hk hkl;have hks:k<listed.size:=by omega
      simpa[Array.getD_eq_getD_getElem?,hks] using hkl
     rcases Nat.lt_trichotomy i j with hij|hij|hij
     . -- one of those before it
       obtain⟨l1,l2,h1,h2,h3⟩:=zud (n:=j) hij hl;rw[h1] at hrun;have hfront:=zrw l1 l2 _ _ hrun (fun k hk=>by
        have hki:=h3 k hk;have hkl:listed.getD k true=false:=by
         have:k∈left j listed:=by rw[h1];simp[hk]
         exact (zgp.1 this).2
        have hpr:=List.all_eq_true.1 hpairs i (by simpa[hjl] using hij);have hpj:=List.all_eq_true.1 hpr k (by simpa using hki);unfold zyo at hpj;split at hpj
        . rename_i hcf;exact .inl hcf
        cases hbit:((zp2 all.toList []).getD i 0).testBit k with
        | true =>
          exfalso;have:=notL k (by omega) (ancL k (hanc i k hbit));rw[hkl] at this;cases this
        | false =>
          right
          rw[hbit] at hpj;dsimp only at hpj;split at hpj
          . rename_i o' ho';exact⟨o',by rw[<- Array.getElem?_toList];exact ho',hpj⟩
          . cases hpj)
       cases hfront with
       | cons ho2 hx2 hr =>
         rw[ho] at ho2;cases ho2;have hg:=zg3 hx2 hb hs;have hnext:∀ a' w',Sim c _ a' w'->wpAnyIn (FR ρ) 0 P .any all Q fuel (listed.setIfInBounds i true) a' w':=fun a' w' hs'=>by
          obtain⟨m1,m2,g1,g2,_⟩:=zud (n:=all.size) hil hl;refine ih _ _ a' w' (by simpa using hsz) (by rw[g2];rw[g1] at hlen;simp at hlen ⊢;omega) ?_ ?_ (by rw[h2];exact hr) hs'
          . intro k o' hk hlk m hm;by_cases e:i=k
            . subst e;rw[ho] at hk;cases hk;exact hset _ _ hsz hil m (hp m hm)
            . refine hset _ _ hsz hil m (hcl k o' hk ?_ m hm);simpa[Array.getD_eq_getD_getElem?,Array.getElem?_setIfInBounds_ne e] using hlk
          . simpa[Array.getD_eq_getD_getElem?,Array.getElem?_setIfInBounds_ne (show i≠j by omega)] using hlj
         unfold wpOpIn;rw[ho];dsimp only;split
         . rename_i hw;rw[if_pos hw] at hg;exact Oper.wpIn_mono hnext (hg ρ Q)
         . rename_i hw;rw[if_neg hw] at hg;exact⟨fun _ _=>trivial,hnext _ _ hg⟩
     . -- it itself
       subst hij;rw[ho] at hj;cases hj;obtain⟨st3,h3⟩:=z12e hrun (fun k hk=>by
        obtain⟨hk1,hk2⟩:=zgp.1 hk;have hb1:=zr7 hbefore (i:=k) (by omega);split at hb1
        . assumption
        . rw[hjl] at hb1;have:=notL k (by omega) (ancL k (hanc i k hb1));rw[hk2] at this;cases this) hargs
       unfold wpOpIn;rw[ho];dsimp only;rw[if_pos (by simp[Region.wanted,zou hpo])];exact zmz hb hP hpo h3 hx hs fun w' hw'=>hq a w' hw'
     . -- one behind it: it waits
       exfalso;have hb2:=zr7 hbehind (i:=i) (by simpa using hil);split at hb2
       . rename_i hle;have:=Nat.le_of_ble_eq_true hle;omega
       . rw[hjl] at hb2;have:=notL j hjs (ancL j (hanc i j hb2));rw[hlj] at this;cases this
theorem zwu {β:Type} {ops:Array Oper} {id:Nat} {K:List A->Option β} {KP:TypeId->Dat->Option β} {y:β} {st:List A} (hb:Base P E c) (hP:PnOk P E.glob Pn) (h:zuw E Pn ops ops.toList [] st K KP=some y) :
 (∃ st',K st'=some y/\∀ (ρ:Option Nat) (Q:Exit->Act->World->Prop) (a:Act) (w:World),Sim c st a w->(∀ a' w',Sim c st' a' w'->Q .normal a' w')->(Code.region id ops true).wpIn (FR ρ) 0 P Q a w) ∨
 (∃ ty d,KP ty d=some y/\∀ (ρ:Option Nat) (Q:Exit->Act->World->Prop) (a:Act) (w:World),Sim c st a w->(∀ a' w',(∃ n,Sim c (zsw n) a' w')->Q (.panic (zln ty d)) a' w')->(Code.region id ops true).wpIn (FR ρ) 0 P Q a w):=by
 have hl0:∀ n,n<=ops.size->left n (Array.replicate ops.size false)=List.range' 0 n:=by
  intro n hn;unfold left;rw[<- List.range_eq_range'];apply List.filter_eq_self.2;intro i hi;have:i<ops.size:=by simp at hi;omega
  simp[Array.getD_eq_getD_getElem?,this]
 have hcl:∀ j o,ops[j]?=some o->(Array.replicate ops.size false).getD j false=true->∀ k∈zk5 o,(Array.replicate ops.size false).getD k false=true:=by
  intro j o hj hlj;exfalso;rcases Nat.lt_or_ge j ops.size with hlt|hge
  . simp[Array.getD_eq_getD_getElem?,hlt] at hlj
  . simp[Array.getD_eq_getD_getElem?,hge] at hlj
 have hw:∀ {a:Act} {w:World},Sim c st a w->Sim c st a { w with drawn:=w.drawn+1 }:=by
  rintro a w ⟨S,ob,hs⟩;exact⟨S,ob,hs.world (Sub.refl _) ⟨hs.frame.size,hs.frame.same,hs.frame.tape,hs.frame.os,hs.frame.output⟩⟩
 have hlenR:∀ {l:List Oper} {fps:List FP} {s1 s2:List A},Run E ops l fps s1 s2->fps.length=l.length:=by
  intro l fps s1 s2 hr
  induction hr with
  | nil=>rfl
  | cons _ _ ih=>simp[ih]
 rcases zuv ops.toList [] st K KP h with⟨fps,st',hr,hK,hok⟩|⟨l1,o,l2,fps,st',ty,g,xs,la,st2,fq,x,e,hr,hpo,hargs,hok,hx,hK⟩
 . refine .inl ⟨st',hK,fun ρ Q a w hs hq=>wpIn_region_any hb.env.mixed ?_⟩;have hi:=zob (k:=0) fps hr (fun j=>by rw[Nat.zero_add,Array.getElem?_toList]) (fun j f hj=>by simp[List.getD,hj]);refine zvd hb (by simpa using hok) hq ops.size _ st a _ (by simp) (by rw[hl0 _ (Nat.le_refl _)];simp) hcl (by rw[hl0 _ (Nat.le_refl _)];simpa using hi) (hw hs)
 . refine .inr ⟨ty,_,hK,fun ρ Q a w hs hq=>wpIn_region_any hb.env.mixed ?_⟩;have hat:∀ k,k<l1.length->l1[k]?=ops[k]?:=fun k hk=>by
    rw[<- Array.getElem?_toList,e,List.getElem?_append_left hk]
   have hj:ops[l1.length]?=some o:=by
    rw[<- Array.getElem?_toList,e,List.getElem?_append_right (Nat.le_refl _)];simp
   have hsz:ops.size=l1.length+(l2.length+1):=by rw[<- Array.length_toList,e];simp
   have hi:RunI E ops fps (List.range' 0 l1.length) st st':=by
    have gen:∀ {l:List Oper} {fs:List FP} {s1 s2:List A} (k:Nat),Run E ops l fs s1 s2->(∀ j,j<l.length->l[j]?=ops[k+j]?)->(∀ j f,fs[j]?=some f->fps.getD (k+j) fp0=f)->RunI E ops fps (List.range' k l.length) s1 s2:=by
     intro l fs s1 s2 k h
     induction h generalizing k with
     | nil=>intro _ _;exact .nil
     | @cons o l f fs s1 s2 s3 h1 h2 ih =>
       intro hl hf;rw[List.length_cons,List.range'_succ];have h0:fps.getD k fp0=f:=by simpa using hf 0 f rfl
       refine .cons (by simpa using (hl 0 (by simp)).symm) (by rw[h0];exact h1) (ih (k+1) (fun j hj=>?_) (fun j g hj=>?_))
       . have:=hl (j+1) (by simpa using hj);simpa[Nat.add_assoc,Nat.add_comm 1 j] using this
       . have:=hf (j+1) g (by simpa using hj);simpa[Nat.add_assoc,Nat.add_comm 1 j] using this
    exact gen 0 hr (fun j hj=>by rw[Nat.zero_add];exact hat j hj) (fun j f hj=>by simp[List.getD,hj])
   refine z112 hb hP (j:=l1.length) hj (hlenR hr) hpo hargs hx (by simpa using hok) hq ops.size _ st a _ (by simp) (by rw[hl0 _ (Nat.le_refl _)];simp) hcl ?_ (by rw[hl0 _ (by omega)];exact hi) (hw hs);simp[Array.getD_eq_getD_getElem?,show l1.length<ops.size by omega]
theorem TabOkP.nil {β:Type}{body:Code}:TabOkP (β:=β) P c body []:=fun q h e=>by cases e
theorem TabOkP.cons {β:Type}{body:Code}{q:List Nat}{k:HdP β}{H:zcp β}(h:z22 P c (zf body q) k)(ht:TabOkP P c body H):TabOkP P c body ((q,k)::H):=by
 intro q' h' e;simp only[zhc] at e;split at e
 . rename_i hq;cases e;rw[<- zz2 hq];exact h
 . exact ht q' h' e
theorem zjv {β:Type}{body k:Code}{H:zcp β}{q:List Nat}{f:HdP β}(hH:TabOkP P c body H)(hq:zf body q=k)(hf:z22 P c k f):z22 P c k (z171 (zhc H q) f):=by
 cases hl:zhc H q with
 | none=>exact hf
 | some h=>rw[<- hq];exact hH q h hl
theorem znr (ty:TypeId)(st1:List A):∃ ch,(ExP.pan ty).exit' st1=.panic ch:=by
 unfold ExP.exit';dsimp only;split
 . exact⟨_,rfl⟩
 . exact⟨_,rfl⟩
theorem zkd {β:Type} {k:Code} {f:HdP β} (hk:z22 P c k f) (live:List Nat):∀ (n:Nat) (st:List A) (K:ExP->List A->Option β) (y:β),zn2 live f n st K=some y →
 ∃ e st',K e st'=some y/\∀ (Q:Exit->Act->World->Prop) (a:Act) (w:World),Sim c st a w->(∀ a' w',z1r2 c e st' a' w'->Q (e.exit' st') a' w')->k.wp P (Exit.then (Inl P k Q) Q) a w
 | 0,st,K,y,h=>by simp[zn2] at h
 | n + 1,st,K,y,h=>by
   simp only[zn2] at h;obtain⟨e,st1,hK,hw⟩:=hk st _ y h;cases e with
   | normal =>
     obtain⟨e2,st2,hK2,hw2⟩:=zkd hk live n _ K y hK;refine⟨e2,st2,hK2,fun Q a w hs hq=>hw _ a w hs fun a' w' hs'=>?_⟩;exact zsk (hw2 Q a' w' (Sim.restr hs' live) hq)
   | exit id=>exact⟨.exit id,st1,hK,fun Q a w hs hq=>hw _ a w hs fun a' w' hs'=>hq a' w' hs'⟩
   | ret=>exact⟨.ret,st1,hK,fun Q a w hs hq=>hw _ a w hs fun a' w' hs'=>hq a' w' hs'⟩
   | pan ty=>exact⟨.pan ty,st1,hK,fun Q a w hs hq=>hw _ a w hs fun a' w' hs'=>by
    have:=hq a' w' hs';obtain⟨ch,e⟩:=znr ty st1;rw[e] at this ⊢;exact this⟩
theorem z15l {ty:TypeId}{st1:List A}{Q:Exit->Act->World->Prop}{next:Act->World->Prop}(h:Q ((ExP.pan ty).exit' st1) a w):Exit.then next Q ((ExP.pan ty).exit' st1) a w:=by
 obtain⟨ch,e⟩:=znr ty st1;rw[e] at h ⊢;exact h
theorem z12u {ty:TypeId}{id:Nat}{st1:List A}{Q:Exit->Act->World->Prop}(h:Q ((ExP.pan ty).exit' st1) a w):Exit.inBlock id Q ((ExP.pan ty).exit' st1) a w:=by
 obtain⟨ch,e⟩:=znr ty st1;rw[e] at h ⊢;exact h
theorem z12t {ty:TypeId}{st1:List A}{Q:Exit->Act->World->Prop}(h:Q ((ExP.pan ty).exit' st1) a w):Exit.noGoto Q ((ExP.pan ty).exit' st1) a w:=by
 obtain⟨ch,e⟩:=znr ty st1;rw[e] at h ⊢;exact h
theorem z1n {β:Type} (hb:Base P E c) (hP:PnOk P E.glob Pn) (N:Nat) (H:zcp β) (L:List (List Nat×List Nat)) (body:Code) (hH:TabOkP P c body H) (p:List Nat):∀ (k:Code),zf body p=k->z22 (β:=β) P c k (evP E Pn N H L p k):=by
 intro k
 induction k generalizing p with
 | skip=>exact fun _ st K y h=>⟨.normal,_,h,fun Q a w hs hq=>wp_skip (hq a w (hs.rs _ _))⟩
 | region id ops draw =>
   intro _ st K y h;simp only[evP] at h;cases draw with
   | false =>
     rcases zqs hb hP _ _ _ _ h with⟨st',hK,hw⟩|⟨ty,d,hK,hw⟩
     . exact⟨.normal,_,hK,fun Q a w hs hq=>(wpIn_wide (n:=0)).1 (wpIn_region_list (hw none Q a w hs fun a' w' hs'=>hq a' w' (hs'.rs _ _)))⟩
     . exact⟨.pan ty,_,hK,fun Q a w hs hq=>(wpIn_wide (n:=0)).1 (wpIn_region_list (hw none Q a w hs fun a' w' hs'=>hq a' w' hs'))⟩
   | true =>
     rcases zwu (id:=id) hb hP h with⟨st',hK,hw⟩|⟨ty,d,hK,hw⟩
     . exact⟨.normal,_,hK,fun Q a w hs hq=>(wpIn_wide (n:=0)).1 (hw none Q a w hs fun a' w' hs'=>hq a' w' (hs'.rs _ _))⟩
     . exact⟨.pan ty,_,hK,fun Q a w hs hq=>(wpIn_wide (n:=0)).1 (hw none Q a w hs fun a' w' hs'=>hq a' w' hs')⟩
 | seq x z ihx ihz =>
   intro hp st K y h;have hx:=zjv hH (q:=0::p) (by simp only[zf,hp,z4s]) (ihx (0::p) (by simp only[zf,hp,z4s]));have hz:=zjv hH (q:=1::p) (by simp only[zf,hp,z4s]) (ihz (1::p) (by simp only[zf,hp,z4s]));simp only[evP] at h;obtain⟨e,st1,hK,hw⟩:=hx st _ y h;cases e with
   | normal =>
     obtain⟨e2,st2,hK2,hw2⟩:=hz st1 K y hK;exact⟨e2,st2,hK2,fun Q a w hs hq=>wp_seq (hw _ a w hs fun a' w' hs'=>hw2 Q a' w' hs' hq)⟩
   | exit id=>exact⟨.exit id,st1,hK,fun Q a w hs hq=>wp_seq (hw _ a w hs fun a' w' hs'=>hq a' w' hs')⟩
   | ret=>exact⟨.ret,st1,hK,fun Q a w hs hq=>wp_seq (hw _ a w hs fun a' w' hs'=>hq a' w' hs')⟩
   | pan ty=>exact⟨.pan ty,st1,hK,fun Q a w hs hq=>wp_seq (hw _ a w hs fun a' w' hs'=>z15l (hq a' w' hs'))⟩
 | cond x t e iht ihe =>
   intro hp st K y h;have ht:=zjv hH (q:=0::p) (by simp only[zf,hp,z4s]) (iht (0::p) (by simp only[zf,hp,z4s]));have he:=zjv hH (q:=1::p) (by simp only[zf,hp,z4s]) (ihe (1::p) (by simp only[zf,hp,z4s]));simp only[evP] at h;obtain⟨v,st1,fp1,h1,h2⟩:=z1m h;split at h2
   . rename_i b;have hev:∀ a w,Sim c st a w->a.eval x=.bool b:=by
      rintro a w ⟨S,ob,hs⟩;obtain⟨A,fp',h3,hA,_⟩:=zr h1 hs (hb.globS hs);have:=z5j h3;simp only[Prod.mk.injEq] at this;rw[<- this.1] at hA;exact hA.1.bool_inv
     cases b with
     | true =>
       simp only[cond] at h2;obtain⟨ex,st2,hK,hw⟩:=ht st _ y h2;cases ex with
       | normal=>exact⟨.normal,_,hK,fun Q a w hs hq=>wp_cond_true (hev a w hs) (hw Q a w hs fun a' w' hs'=>hq a' w' (Sim.rs hs' _ _))⟩
       | exit id=>exact⟨.exit id,_,hK,fun Q a w hs hq=>wp_cond_true (hev a w hs) (hw Q a w hs hq)⟩
       | ret=>exact⟨.ret,_,hK,fun Q a w hs hq=>wp_cond_true (hev a w hs) (hw Q a w hs hq)⟩
       | pan ty=>exact⟨.pan ty,_,hK,fun Q a w hs hq=>wp_cond_true (hev a w hs) (hw Q a w hs hq)⟩
     | false =>
       simp only[cond] at h2;obtain⟨ex,st2,hK,hw⟩:=he st _ y h2;cases ex with
       | normal=>exact⟨.normal,_,hK,fun Q a w hs hq=>wp_cond_false (hev a w hs) (hw Q a w hs fun a' w' hs'=>hq a' w' (Sim.rs hs' _ _))⟩
       | exit id=>exact⟨.exit id,_,hK,fun Q a w hs hq=>wp_cond_false (hev a w hs) (hw Q a w hs hq)⟩
       | ret=>exact⟨.ret,_,hK,fun Q a w hs hq=>wp_cond_false (hev a w hs) (hw Q a w hs hq)⟩
       | pan ty=>exact⟨.pan ty,_,hK,fun Q a w hs hq=>wp_cond_false (hev a w hs) (hw Q a w hs hq)⟩
   . cases h2
 | block id x ihx =>
   intro hp st K y h;have hx:=zjv hH (q:=0::p) (by simp only[zf,hp,z4s]) (ihx (0::p) (by simp only[zf,hp,z4s]));simp only[evP] at h;obtain⟨e,st1,hK,hw⟩:=hx st _ y h;cases e with
   | normal=>exact⟨.normal,_,hK,fun Q a w hs hq=>wp_block (hw _ a w hs fun a' w' hs'=>hq a' w' (Sim.rs hs' _ _))⟩
   | exit j =>
     dsimp only at hK;split at hK
     . rename_i hj;have hj:=z81 hj;subst hj;refine⟨.normal,_,hK,fun Q a w hs hq=>wp_block (hw _ a w hs fun a' w' hs'=>?_)⟩;simp only[ExP.exit',Exit.inBlock,if_true];exact hq a' w' (Sim.rs hs' _ _)
     . rename_i hj;have hj:j≠id:=fun e=>by subst e;simp[Nat.beq_refl] at hj
       refine⟨.exit j,_,hK,fun Q a w hs hq=>wp_block (hw _ a w hs fun a' w' hs'=>?_)⟩;simp only[ExP.exit',Exit.inBlock,if_neg hj];exact hq a' w' hs'
   | ret=>exact⟨.ret,_,hK,fun Q a w hs hq=>wp_block (hw _ a w hs fun a' w' hs'=>hq a' w' hs')⟩
   | pan ty=>exact⟨.pan ty,_,hK,fun Q a w hs hq=>wp_block (hw _ a w hs fun a' w' hs'=>z12u (hq a' w' hs'))⟩
 | loop x ihx =>
   intro hp st K y h;have hx:=zjv hH (q:=0::p) (by simp only[zf,hp,z4s]) (ihx (0::p) (by simp only[zf,hp,z4s]));simp only[evP] at h;obtain⟨e,st',hK,hw⟩:=zkd hx _ _ _ K y h;exact⟨e,st',hK,fun Q a w hs hq=>zmc (hw Q a w (hs.restr _) hq)⟩
 | exit id=>exact fun _ st K y h=>⟨.exit id,_,h,fun Q a w hs hq=>wp_exit (hq a w (hs.rs _ _))⟩
 | scope x ihx =>
   intro hp st K y h;have hx:=zjv hH (q:=0::p) (by simp only[zf,hp,z4s]) (ihx (0::p) (by simp only[zf,hp,z4s]));simp only[evP] at h;obtain⟨e,st1,hK,hw⟩:=hx st K y h;exact⟨e,st1,hK,fun Q a w hs hq=>wp_scope_straight (hw _ a w hs fun a' w' hs'=>by
    cases e with
    | pan ty=>exact z12t (hq a' w' hs')
    | _=>exact hq a' w' hs')⟩
 | label l=>exact fun _ st K y h=>⟨.normal,_,h,fun Q a w hs hq=>wp_label (hq a w hs)⟩
 | ret=>exact fun _ st K y h=>⟨.ret,_,h,fun Q a w hs hq=>wp_ret (hq a w (hs.rs _ _))⟩
 | _=>intro _ st K y h;simp[evP] at h
theorem z26 {β:Type}{k:Code}{f:HdP β}{s:List (Nat×AS)}{m:Nat}{g:zw s->(ExP->List A->Option β)->Option β}(live:List Nat)(hf:z22 P c k f)(h:∀ x K,f (mkS s m x) K=g x K) :
 z22 P c k (fun st K=>(unS s m (restr live 0 st)).bind fun x=>g x K):=by
 intro st K y hy;cases hu:unS s m (restr live 0 st) with
 | none=>simp only[hu] at hy;cases hy
 | some x =>
   simp only[hu,Option.bind_some] at hy;rw[<- h,<- zd4 hu] at hy;obtain⟨e,st',hK,hw⟩:=hf _ K y hy;exact⟨e,st',hK,fun Q a w hs hq=>hw Q a w (hs.restr live) hq⟩
def brkP {β:Type}(live:List Nat)(rec:List A->Option β)(K:ExP->List A->Option β):ExP->List A->Option β:=fun e st=>match e with
 | .normal=>rec (restr live 0 st)
 | e=>K e st
theorem zp5 {β ι σ:Type}{live:List Nat}{f:HdP β}{mk:ι->σ->List A}{g:ι->σ->(σ->Option β)->(ExP->List A->Option β)->Option β}(h:∀ i v rec K,f (mk i v) (brkP live rec K)=g i v (fun v'=>rec (mk i v')) K)
 (K:ExP->List A->Option β) (i:ι):∀ (n:Nat) (v:σ),zn2 live f n (mk i v) K=iter (fun v r=>g i v r K) n v
 | 0,v=>rfl
 | n+1,v=>by
   have:=h i v (fun st=>zn2 live f n st K) K;simp only[zn2,iter];refine Eq.trans this ?_;congr 1
   funext v'
   exact zp5 h K i n v'
theorem znt {β ι σ:Type}{k:Code}{f:HdP β}{s:List (Nat×AS)}{m:Nat}(g:ι->σ->(σ->Option β)->(ExP->List A->Option β)->Option β)(live:List Nat)(N:Nat)(pi:zw s->ι)(pv:zw s->σ)(mk:ι->σ->zw s)(hmk:∀ x,mk (pi x) (pv x)=x)(hf:z22 P c k f)
 (h:∀ i v rec K,f (mkS s m (mk i v)) (brkP live rec K)=g i v (fun v'=>rec (mkS s m (mk i v'))) K) :
 z22 P c (.loop k) (fun st K=>(unS s m (restr live 0 st)).bind fun x=>iter (fun v r=>g (pi x) v r K) N (pv x)):=by
 intro st K y hy;cases hu:unS s m (restr live 0 st) with
 | none=>simp only[hu] at hy;cases hy
 | some x =>
   simp only[hu,Option.bind_some] at hy;rw[<- zp5 (mk:=fun i v=>mkS s m (mk i v)) (live:=live) (f:=f) h,hmk] at hy;obtain⟨e,st',hK,hw⟩:=zkd hf live N _ K y hy;refine⟨e,st',hK,fun Q a w hs hq=>zmc (hw Q a w ?_ hq)⟩;rw[<- zd4 hu];exact hs.restr live
def panK {β:Type} (ty:TypeId) (t:T) (k:t.den->Option β):ExP->List A->Option β:=fun e st=>match e with
 | .pan ty'=>(match Nat.beq ty ty' with
   | true=>(match st with
     | [x]=>(match AS.un (.v t) x with
       | some z=>k z
       | none=>none)
     | _=>none)
   | false=>none)
 | _=>none
def zi7 {β:Type} (E:Env) (Pn:PnT) (N:Nat) (H:zcp β) (L:List (List Nat×List Nat)) (fn:Func) (ty:TypeId) (t:T) (args:List A) (k:t.den->Option β):Option β :=
 match fn.body with
 | none=>none
 | some body=>match z20 (z20 (znb E.lent 0 args) (zuc args.length E.lent)) (Nat.ble args.length fn.ntmps) with
   | true=>evP E Pn N H L [] body (args.append (z6g (fn.ntmps - args.length))) (panK ty t k)
   | false=>none
theorem zlg {fn:Func}{R:Ending->World->Prop}{tmps:Array Value}{ch:List PanicEntry}:∀ (ds:List Deferred) (a:Act) (w:World),a.defers=ds->SimD c st a w S ob →
 (∀ a' w',SimD c st a' w' S ob->R (.panicked ch) w')->LeavesInM Fence.wide 0 P fn tmps R ds (.panicking ch) w
 | [],a,w,hd,hs,hR=>hR a w hs
 | d :: ds,a,w,hd,hs,hR=>by
   obtain⟨Ds,e,_⟩:=hs.defers;rw[hd] at e;cases Ds with
   | nil=>cases e
   | cons D Ds =>
     have e1:=(List.cons.inj e).1;subst e1;obtain⟨k1,hs'⟩:=hs.unmark hd;exact⟨by simp,.inl ⟨D,_,rfl,run_takeDeferred k1,zlg ds { a with defers:=ds } _ rfl hs' hR⟩⟩
theorem zw6 {β:Type}{N:Nat}{H:zcp β}{L:List (List Nat×List Nat)}{f:FuncId}{fn:Func}{body:Code}{ty:TypeId}{t:T}{args:List A}{k:t.den->Option β}{y:β}(hE:EnvOk P E)(hP:PnOk P E.glob Pn)(hf:P.funcs[f]?=some fn)(hbody:fn.body=some body)
 (hH:∀ c,Base P E c->TabOkP P c body H) (h:zi7 E Pn N H L fn ty t args k=some y)
 (w:World) (S:Hp) (vals:List Value) (ob:Nat->List Nat) (har:ArgsRel (hp w) S args vals ob) (hS:Sub S (hp w)) (hg:GlobOk E.glob S) :
 ∃ z,k z=some y/\Calls P f vals.toArray w fun e w'=>e=.panicked (zln ty ⟨t,z⟩)/\WF w (fun b=>∃ i,b∈ob i) w'/\Sub S (hp w'):=by
 unfold zi7 at h;rw[hbody] at h;dsimp only at h;split at h
 case h_2=>cases h
 rename_i hck;obtain⟨hck1,hntmps⟩:=za hck;obtain⟨hargs,hlent⟩:=za hck1;have hntmps:args.length<=fn.ntmps:=by simpa using hntmps
 have happ:args.append (z6g (fn.ntmps - args.length))=args++z6g (fn.ntmps - args.length):=rfl;rw[happ] at h;have hb:Base P E (zmi E w S vals ob):=zj0 hE hg;obtain⟨e,st1,hrun,hwp⟩:=z1n hb hP N H L body (hH _ hb) [] body rfl _ _ _ h;unfold panK at hrun;split at hrun
 rotate_left
 . cases hrun
 rename_i ty';split at hrun
 rotate_left
 . cases hrun
 rename_i hty;have hty:=Nat.eq_of_beq_eq_true hty;subst hty;split at hrun
 rotate_left
 . cases hrun
 rename_i x;split at hrun
 rotate_left
 . cases hrun
 rename_i z hz;have hxz:=AS.un_mk hz;subst hxz;refine⟨z,hrun,?_⟩;have hs0:=zo6 (E:=E) (fn:=fn) hntmps har hS;refine callsIn_wide.1 (callsIn_of_wp_marks (n:=0) hf hbody trivial (wpIn_wide.2 (hwp _ _ _ hs0 ?_)));rintro a1 w1 ⟨n,S1,ob1,hs1⟩;refine zlg a1.defers a1 w1 rfl hs1 ?_;intro a' w' hs2;exact⟨rfl,hs2.frame,hs2.mono.trans hs2.sub⟩
def zi6 {β:Type}(ps:List (Nat×AS))(F:zw ps->Option β)(out:β->Dat)(args:List A):PnRes :=
 match unS ps 0 args with
 | some x=>⟨β,F x,out⟩
 | none=>⟨Unit,none,fun _=>⟨.unit,()⟩⟩
theorem ContractP.of {f:FuncId}{fn:Func}{body:Code}{ty:TypeId}{t:T}{H:zcp t.den}{L:List (List Nat×List Nat)}{N:Nat}{ps:List (Nat×AS)}{F:zw ps->Option t.den}
 (hE : EnvOk P E) (hP : PnOk P E.glob Pn) (hf : P.funcs[f]? = some fn) (hbody : fn.body = some body) (hname : fn.name ≠ "runtime.NumGoroutine")
 (hH:∀ c,Base P E c->TabOkP P c body H) (hF:∀ x y,F x=some y->zi7 E Pn N H L fn ty t (mkS ps 0 x) (fun z=>some z)=some y) :
 ContractP P E.glob f ty (zi6 ps F fun z=>⟨t,z⟩):=by
 refine⟨⟨fn,hf,by rw[hbody];rfl,hname⟩,?_⟩;intro w S args vals ob har hS hg;unfold zi6;cases hu:unS ps 0 args with
 | none=>intro y hy;cases hy
 | some x =>
   dsimp only;intro y hy;have:=hF x y hy;rw[<- zd4 hu] at this;obtain⟨z,hz,hc⟩:=zw6 hE hP hf hbody hH this w S vals ob har hS hg;cases hz;exact hc
theorem ContractP.zero {glob:Nat->Option Dat}{f:FuncId}{fn:Func}{body:Code}{ty:TypeId}{β:Type}{ps:List (Nat×AS)}{F:zw ps->Option β}{out:β->Dat}
 (hf : P.funcs[f]? = some fn) (hbody : fn.body = some body) (hname : fn.name ≠ "runtime.NumGoroutine") (hF : ∀ x, F x = none) : ContractP P glob f ty (zi6 ps F out) := by
 refine⟨⟨fn,hf,by rw[hbody];rfl,hname⟩,?_⟩;intro w S args vals ob har hS hg;unfold zi6;cases unS ps 0 args with
 | none=>intro y hy;cases hy
 | some x=>intro y hy;dsimp only at hy;rw[hF] at hy;cases hy
theorem ContractP.hand {β : Type} {glob : Nat -> Option Dat} {f : FuncId} {ty : TypeId} {ps : List (Nat × AS)} {F : zw ps -> Option β} {out : β -> Dat} (hf : ∃ fn, P.funcs[f]? = some fn /\ fn.body.isSome = true /\ fn.name ≠ "runtime.NumGoroutine")
 (h:∀ (w:World) (S:Hp) (vals:List Value) (ob:Nat->List Nat) (x:zw ps) (y:β),ArgsRel (hp w) S (mkS ps 0 x) vals ob->Sub S (hp w)->GlobOk glob S->F x=some y->Calls P f vals.toArray w fun e w'=>e=.panicked (zln ty (out y))/\WF w (fun b=>∃ i,b∈ob i) w'/\Sub S (hp w')) :
 ContractP P glob f ty (zi6 ps F out):=by
 refine⟨hf,?_⟩;intro w S args vals ob har hS hg;unfold zi6;cases hu:unS ps 0 args with
 | none=>intro y hy;cases hy
 | some x =>
   dsimp only;intro y hy;rw[zd4 hu] at har;exact h w S vals ob x y har hS hg hy
def pnT:List (Nat×TypeId×(List A->PnRes))->PnT
 | [],_=>none
 | e::r,f=>match Nat.beq e.1 f with
   | true=>some e.2
   | false=>pnT r f
theorem PnOk.nil {glob:Nat->Option Dat}:PnOk P glob (pnT []):=fun f ty g h=>by cases h
theorem PnOk.cons {glob:Nat->Option Dat}{f:FuncId}{ty:TypeId}{g:List A->PnRes}{l:List (Nat×TypeId×(List A->PnRes))}(h:ContractP P glob f ty g)(hl:PnOk P glob (pnT l)):PnOk P glob (pnT ((f,ty,g)::l)):=by
 intro f' ty' g' e;simp only[pnT] at e;split at e
 . rename_i hq;have:=Nat.eq_of_beq_eq_true hq;subst this;simp only[Option.some.injEq,Prod.mk.injEq] at e;obtain⟨rfl,rfl⟩:=e;exact h
 . exact hl f' ty' g' e
end
end
end Go.Lift
