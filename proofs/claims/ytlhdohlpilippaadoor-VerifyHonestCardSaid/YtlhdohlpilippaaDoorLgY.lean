import Derived.Test.YtlhdohlpilippaaDoorLgR
import Derived.RangeFuncRecord
set_option linter.all false
namespace Go.Lift
noncomputable section
section
variable {P:Program} {E:Env} {c:Ctx} {st st':List A} {fp fp':FP} {a:Act} {w w':World} {S:Hp} {ob:Nat->List Nat}
theorem zl2 {β:Type}{all:Array Oper}:∀ (l:List Oper) (st:List A) (K:List A->Option β),z11v E all l st K=(z11v E all l st some).bind K
 | [],st,K=>rfl
 | o::l,st,K=>by
   simp only[z11v];rw[zm7,zm7 (K:=fun _ st' _=>z11v E all l st' some),Option.bind_assoc];congr 1
   funext r
   exact zl2 l _ K
theorem zij {β:Type}{all:Array Oper}:∀ (l:List Oper) (fps:List FP) (st:List A) (K:List A->Option β),zik E all l fps st K=(zik E all l fps st some).bind K
 | [],fps,st,K=>by
   simp only[zik];split<;>rfl
 | o::l,fps,st,K=>by
   simp only[zik];rw[zm7,zm7 (K:=fun _ st' fp=>zik E all l (fps.append [fp]) st' some),Option.bind_assoc];congr 1
   funext r
   exact zij l _ _ K
def zgw:Ex->List A->Option (Ex×List A):=fun e s=>some (e,s)
theorem znx {β:Type}{f:List A->(Ex->List A->Option β)->Option β}{f2:List A->(Ex->List A->Option (Ex×List A))->Option (Ex×List A)}(hf:∀ st K,f st K=(f2 st zgw).bind fun p=>K p.1 p.2)
 (hf2:∀ st K,f2 st K=(f2 st zgw).bind fun p=>K p.1 p.2) (live:List Nat):∀ (n:Nat) (st:List A) (K:Ex->List A->Option β),zc5 live f n st K=(zc5 live f2 n st zgw).bind fun p=>K p.1 p.2
 | 0,st,K=>rfl
 | n+1,st,K=>by
   simp only[zc5];rw[hf]
   conv=>rhs;rw[hf2]
   rw[Option.bind_assoc];congr 1
   funext p
   obtain⟨e,s⟩:=p;cases e with
   | normal=>exact znx hf hf2 live n _ K
   | exit id=>rfl
   | ret=>rfl
theorem z5b {β:Type} (N:Nat):∀ (k:Code) (st:List A) (K:Ex->List A->Option β),evC E N k st K=(evC E N k st zgw).bind fun p=>K p.1 p.2
 | .skip,st,K=>rfl
 | .region id ops draw,st,K=>by
   simp only[evC];cases draw with
   | false =>
     simp only;rw[zl2,zl2 (K:=fun st=>zgw .normal st),Option.bind_assoc];rfl
   | true =>
     simp only;rw[zij,zij (K:=fun st=>zgw .normal st),Option.bind_assoc];rfl
 | .seq x z,st,K=>by
   simp only[evC];rw[z5b N x]
   conv=>rhs;rw[z5b N x]
   rw[Option.bind_assoc];congr 1
   funext p
   obtain⟨e,s⟩:=p;cases e with
   | normal=>exact z5b N z _ K
   | exit id=>rfl
   | ret=>rfl
 | .cond x t e,st,K=>by
   simp only[evC];rw[zm7,zm7 (β:=Ex×List A),Option.bind_assoc];congr 1
   funext p
   obtain⟨v,s,fp⟩:=p;dsimp only;split
   . rename_i b;cases b with
     | true =>
       simp only[cond];rw[z5b N t,z5b N t st (fun e st=>zgw e (restr E.live 0 st)),Option.bind_assoc];rfl
     | false =>
       simp only[cond];rw[z5b N e,z5b N e st (fun e st=>zgw e (restr E.live 0 st)),Option.bind_assoc];rfl
   . rfl
 | .block id x,st,K=>by
   simp only[evC];rw[z5b N x]
   conv=>rhs;rw[z5b N x]
   rw[Option.bind_assoc];congr 1
   funext p
   obtain⟨e,s⟩:=p;cases e with
   | normal=>rfl
   | exit j=>dsimp only;split<;>rfl
   | ret=>rfl
 | .loop x,st,K=>by
   simp only[evC];exact znx (fun st K=>z5b N x st K) (fun st K=>z5b N x st K) _ _ _ K
 | .exit id,st,K=>rfl
 | .ret,st,K=>rfl
 | .rangeFunc ..,st,K=>rfl
 | .scope ..,st,K=>rfl
 | .label ..,st,K=>rfl
 | .goto ..,st,K=>rfl
 | .refuse ..,st,K=>rfl
def gK (E:Env) (g:Operand):Cmd Dat:=rdK E g fun A=>match A with
 | .v .opq (.func (.func f) first captured)=>(match z1i first.isEmpty captured.isEmpty with
   | true=>.ret ⟨.fn f .unit,()⟩
   | false=>.fail)
 | A=>zx7 A fun d=>.ret d
theorem z1f5 {g:Operand}{d:Dat}(h:zn E (gK E g) st fp=some (d,st',fp'))(hs:SimD c st a w S ob)(hg:GlobOk E.glob S) :
 ∃ S' ob',SimD c st' a w S' ob'/\Sub S S'/\VR S' d.1 d.2 (a.eval g):=by
 obtain⟨A,fp1,h1,hA,_⟩:=zw h hs hg;split at h1
 . rename_i f first captured _
   split at h1
   . rename_i hck;obtain⟨h2,h3⟩:=z7 hck;have e1:first=#[]:=by simpa using h2
     have e2:captured=#[]:=by simpa using h3
     subst e1;subst e2;have:=z3e h1;simp only[Prod.mk.injEq] at this;obtain⟨rfl,rfl,rfl⟩:=this;exact⟨S,ob,hs,Sub.refl _,VR.of_one rfl ⟨#[],by rw[hA.1.opq_inv],rfl⟩⟩
   . exact (z6 h1).elim
 . obtain⟨d',st1,fp2,S',ob',h2,hs',hS,hv,_⟩:=z6z h1 hs hA;have:=z3e h2;simp only[Prod.mk.injEq] at this;obtain⟨rfl,rfl,rfl⟩:=this;exact⟨S',ob',hs',hS,hv⟩
def zst (x:A):Bool:=match x with
 | .row .. | .iter .. | .cel .. | .yld | .ov .. | .otup .. | .pel .. | .psl ..=>false
 | _=>true
def zf8:List A->Bool
 | []=>true
 | x::l=>z1i (zst x) (zf8 l)
def zjl:Nat->List A->List Nat
 | _,[]=>[]
 | i,x::l=>match x with
   | .box ..=>i::zjl (i+1) l
   | _=>zjl (i+1) l
def psK:List Nat->List Dat->Cmd Unit
 | [],[]=>.ret ()
 | p::ps,d::l=>.set p (.v d.1 d.2) (psK ps l)
 | _,_=>.fail
def zau : List A->List A->Option (List A)
 | [],[]=>some []
 | x :: l,y::m=>match x with
   | .box ..=>(match y with
     | .box t z=>(match zau l m with
       | some r=>some (.box t z::r)
       | none=>none)
     | _=>none)
   | x=>match zau l m with
     | some r=>some (x::r)
     | none=>none
 | _,_=>none
def zxm (E:Env)(st:List A):Env:={ E with lent:=zjl 0 st,live:=List.range st.length }
def rndC {β:Type} (E:Env) (N:Nat) (ps:List Nat) (assign body:Code) (l:List Dat) (st:List A) (K:Ex->List A->Option β):Option β :=
 (psK ps l).cps (zxm E st) st fp0 fun _ st0 _=>evC (zxm E st) N assign st0 fun e st1=>match e with
  | .normal=>evC (zxm E st) N body st1 fun e st2=>(zau st st2).bind fun st3=>K e st3
  | _=>none
def rfC {β:Type} {ts:List T} (f:z3l ts->List A->(Ex->List A->Option β)->Option β):List (z3l ts)->List A->(Ex->List A->Option β)->Option β
 | [],st,K=>K .normal st
 | y::ys,st,K=>f y st fun e st'=>match e with
   | .normal=>rfC f ys st' K
   | e=>K e st'
def rfEv {β:Type} (E:Env) (N:Nat) (live:List Nat) (g:Operand) (ps:Array Tmp) (assign body:Code) (st:List A) (K:Ex->List A->Option β):Option β :=
 (gK E g).cps E st fp0 fun d st1 _=>match d with
  | ⟨.fn f t,x⟩=>(match zf8 (restr live 0 st1) with
    | true=>(E.it f ⟨t,x⟩).val.bind fun xs=>rfC (fun y=>rndC E N ps.toList assign body (mkL (E.it f ⟨t,x⟩).ts y)) xs (restr live 0 st1) K
    | false=>none)
  | _=>none
def z11x (E:Env)(N:Nat)(ps:List Nat)(assign body:Code)(l:List Dat)(st:List A)(e:Ex)(st':List A):Prop :=
 ∃ st0 fp st1 st2,zn (zxm E st) (psK ps l) st fp0=some ((),st0,fp)/\evC (zxm E st) N assign st0 zgw=some (.normal,st1) ∧
 evC (zxm E st) N body st1 zgw=some (e,st2)/\zau st st2=some st'
theorem z11y {β:Type} {N:Nat} {ps:List Nat} {assign body:Code} {l:List Dat} {K:Ex->List A->Option β} {y:β} (h:rndC E N ps assign body l st K=some y) :
 ∃ e st',z11x E N ps assign body l st e st'/\K e st'=some y:=by
 unfold rndC at h;obtain⟨_,st0,fp,h1,h2⟩:=z1t h;rw[z5b] at h2;cases ha:evC (zxm E st) N assign st0 zgw with
 | none=>rw[ha] at h2;cases h2
 | some p =>
   obtain⟨e,st1⟩:=p;rw[ha] at h2;simp only[Option.bind_some] at h2;cases e with
   | exit id=>cases h2
   | ret=>cases h2
   | normal =>
     dsimp only at h2;rw[z5b] at h2;cases hb:evC (zxm E st) N body st1 zgw with
     | none=>rw[hb] at h2;cases h2
     | some p =>
       obtain⟨e,st2⟩:=p;rw[hb] at h2;simp only[Option.bind_some] at h2;cases hk:zau st st2 with
       | none=>rw[hk] at h2;cases h2
       | some st3 =>
         rw[hk] at h2;exact⟨e,st3,⟨st0,fp,st1,st2,h1,ha,hb,hk⟩,h2⟩
inductive Path {α:Type} (ok:α->List A->Ex->List A->Prop):List α->List A->Ex->List A->Prop
 | nil {st:List A}:Path ok [] st .normal st
 | more {y:α} {ys:List α} {st st1:List A} {e:Ex} {st2:List A} (h:ok y st .normal st1) (hp:Path ok ys st1 e st2):Path ok (y::ys) st e st2
 | out {y:α} {ys:List α} {st st1:List A} {e:Ex} (h:ok y st e st1) (he:e ≠ .normal):Path ok (y::ys) st e st1
theorem zv2 {β:Type}{ts:List T}{f:z3l ts->List A->(Ex->List A->Option β)->Option β}{ok:z3l ts->List A->Ex->List A->Prop}
 (hf:∀ y st K r,f y st K=some r->∃ e st',ok y st e st'/\K e st'=some r):∀ (xs:List (z3l ts)) (st:List A) (K:Ex->List A->Option β) (r:β),rfC f xs st K=some r →
 ∃ e st',Path ok xs st e st'/\K e st'=some r
 | [],st,K,r,h=>⟨.normal,st,.nil,h⟩
 | y :: ys,st,K,r,h=>by
   simp only[rfC] at h;obtain⟨e,st1,h1,h2⟩:=hf _ _ _ _ h;cases e with
   | normal =>
     obtain⟨e2,st2,h3,h4⟩:=zv2 hf ys st1 K r h2;exact⟨e2,st2,.more h1 h3,h4⟩
   | exit id=>exact⟨_,st1,.out h1 (by simp),h2⟩
   | ret=>exact⟨_,st1,.out h1 (by simp),h2⟩
theorem zld:∀ {l:List A},zf8 l=true->∀ (i:Nat) (x:A),l[i]?=some x->zst x=true
 | [],_,i,x,hx=>by simp at hx
 | y::l,h,i,x,hx=>by
   obtain⟨h1,h2⟩:=z7 h;cases i with
   | zero=>simp at hx;subst hx;exact h1
   | succ i=>exact zld h2 i x (by simpa using hx)
theorem znt:∀ {l:List A} {k j:Nat},j∈zjl k l ↔ ∃ i t x,j=k+i/\l[i]?=some (.box t x)
 | [],k,j=>by simp[zjl]
 | y :: l,k,j=>by
   have ih:=znt (l:=l) (k:=k+1) (j:=j);have tail:(∃ i t x,j=k+1+i/\l[i]?=some (.box t x)) ↔ ∃ i t x,j=k+(i+1)/\(y::l)[i+1]?=some (.box t x):=by
    constructor
    . rintro⟨i,t,x,e,h⟩;exact⟨i,t,x,by omega,by simpa using h⟩
    . rintro⟨i,t,x,e,h⟩;exact⟨i,t,x,by omega,by simpa using h⟩
   have split:(∃ i t x,j=k+i/\(y::l)[i]?=some (.box t x)) ↔ (∃ t x,j=k/\y=.box t x)\/∃ i t x,j=k+(i+1)/\(y::l)[i+1]?=some (.box t x):=by
    constructor
    . rintro⟨i,t,x,e,h⟩;cases i with
      | zero=>simp at h;exact .inl ⟨t,x,by omega,h⟩
      | succ i=>exact .inr ⟨i,t,x,e,h⟩
    . rintro (⟨t,x,e,h⟩|⟨i,t,x,e,h⟩)
      . exact⟨0,t,x,by omega,by simp[h]⟩
      . exact⟨i+1,t,x,e,h⟩
   rw[split,<- tail];cases y<;>simp only[zjl]<;>first
    | (rw[List.mem_cons,ih];simp)
    | (rw[ih];simp)
theorem zed:∀ {l m r:List A},zau l m=some r->r.length=l.length
 | [],[],r,h=>by simp[zau] at h;subst h;rfl
 | [],_::_,r,h=>by simp[zau] at h
 | _::_,[],r,h=>by simp[zau] at h
 | x :: l,y::m,r,h=>by
   cases x<;>simp only[zau] at h
   case box =>
    cases y<;>simp only[reduceCtorEq] at h
    split at h
    . rename_i r' hr;cases h;simp[zed hr]
    . cases h
   all_goals
    split at h
    . rename_i r' hr;cases h;simp[zed hr]
    . cases h
theorem zhm:∀ {l m r:List A},zau l m=some r->∀ (i:Nat) (x:A),l[i]?=some x →
 (z8f x=true/\∃ t z,m[i]?=some (.box t z)/\r[i]?=some (.box t z))\/(z8f x=false/\r[i]?=some x)
 | [],[],r,h,i,x,hx=>by simp at hx
 | [],_::_,r,h,i,x,hx=>by simp[zau] at h
 | _::_,[],r,h,i,x,hx=>by simp[zau] at h
 | u :: l,y::m,r,h,i,x,hx=>by
   cases u<;>simp only[zau] at h
   case box =>
    cases y<;>simp only[reduceCtorEq] at h
    split at h
    . rename_i r' hr;cases h;cases i with
      | zero=>simp at hx;subst hx;exact .inl ⟨rfl,_,_,rfl,rfl⟩
      | succ i=>simpa using zhm hr i x (by simpa using hx)
    . cases h
   all_goals
    split at h
    . rename_i r' hr;cases h;cases i with
      | zero=>simp at hx;subst hx;exact .inr ⟨rfl,rfl⟩
      | succ i=>simpa using zhm hr i x (by simpa using hx)
    . cases h
theorem zyo (hb:Base P E c):∀ (ps:List Nat) (l:List Dat) (vs:List Value) (st:List A) (fp:FP) (a:Act) (ob:Nat->List Nat) (st':List A) (fp':FP),zn E (psK ps l) st fp=some ((),st',fp')->SimD c st a w S ob->TupRel S l vs →
 ps.length=vs.length/\∃ ob',SimD c st' { a with tmps:=(ps.zip vs).foldl (fun tmps p=>tmps.setIfInBounds p.1 p.2) a.tmps } w S ob'
 | [],[],vs,st,fp,a,ob,st',fp',h,hs,ht=>by
   cases ht;have:=z3e h;simp only[Prod.mk.injEq] at this;obtain⟨_,rfl,_⟩:=this;exact⟨rfl,ob,hs⟩
 | [],_::_,vs,st,fp,a,ob,st',fp',h,hs,ht=>(z6 h).elim
 | _::_,[],vs,st,fp,a,ob,st',fp',h,hs,ht=>(z6 h).elim
 | p :: ps,d::l,vs,st,fp,a,ob,st',fp',h,hs,ht=>by
   cases ht with
   | cons hv ht =>
     rename_i v vs;obtain⟨fp1,h1,hs1⟩:=zop (o':=[]) h hb hs (x:=.v d.1 d.2) (v:=v) ⟨hv,rfl⟩ (fun b hb=>by cases hb);obtain⟨hl,ob',hs2⟩:=zyo hb ps l vs _ _ _ _ _ _ h1 hs1 ht;exact⟨by simp[hl],ob',hs2⟩
theorem SimD.rebase {c':Ctx}{a':Act}{l:Nat}(h:SimD c st a w S ob)(hw:∀ b,b≠l->hp w' b=hp w b)(hl:S l=none)(hol:∀ i,l∉ob i)(hd:∀ q,hp w l≠some (.deferred q))
 (hc:WF c'.w0 c'.B0 w') (hS:Sub c'.S0 S) (hf:∀ i b,b∈ob i->c'.B0 b\/c'.w0.heap.size<=b) (hn:∀ b,S b≠none->c'.S0 b≠none\/c'.B0 b\/c'.w0.heap.size<=b)
 (hda:(a'.defers=a.defers/\∀ D,c.B0 D\/c.w0.heap.size<=D->c'.B0 D\/c'.w0.heap.size<=D)\/a'.defers=[]) (hta:a'.tmps=a.tmps) (hlent:∀ p∈c'.lent,tv a p.1=p.2):SimD c' st a' w' S ob:=by
 have htv:tv a'=tv a:=by funext i;simp only[tv,hta]
 have hob:∀ {i b},b∈ob i->b≠l:=fun hb e=>hol _ (by rw[<- e];exact hb)
 refine⟨?_,by rw[hta];exact h.size,?_,h.refs,h.out,h.inj,h.nd,h.hid,?_,hS,hf,hn,?_,hc⟩
 . rcases hda with⟨hda,hm⟩|hda
   case inr=>rw[hda];exact⟨[],rfl,.nil,fun D hD=>by cases hD⟩
   rw[hda];obtain⟨Ds,e,hnd,hD⟩:=h.defers;refine⟨Ds,e,hnd,fun D hDm=>?_⟩;obtain⟨h1,h2,h3,h4⟩:=hD D hDm;refine⟨?_,h2,h3,hm D h4⟩;rw[hw D (fun e=>hd _ (by rw[<- e];exact h1))];exact h1
 . intro i x hx;rw[htv];refine (h.rel i x hx).mono (Sub.refl _) (fun b hb=>hw b (hob hb)) (fun _ _=>rfl) (fun r hr b hb=>hw b (hob (h.main hx (A.cell_refs hr) hb)))
 . intro b o hbo;rw[hw b (fun e=>by subst e;rw[hl] at hbo;cases hbo)];exact h.sub b o hbo
 . intro p hp';rw[htv];exact hlent p hp'
structure Left (W:World) (S:Hp) (ob:Nat->List Nat) (l:Nat) (W3:World) (S3:Hp) (ob3:Nat->List Nat):Prop where
 wf:WF W (fun b=>b=l\/∃ i,b∈ob i) W3
 sub:Sub S S3
 newS:∀ b,S3 b≠none->S b≠none\/(∃ i,b∈ob i)\/W.heap.size<=b
 fresh:∀ i b,b∈ob3 i->(∃ i,b∈ob i)\/W.heap.size<=b
theorem Left.outS {W W3:World}{S S3:Hp}{ob ob3:Nat->List Nat}{l b:Nat}(h:Left W S ob l W3 S3 ob3)(hb:b<W.heap.size)(hS:S b=none)(ho:∀ i,b∉ob i):S3 b=none/\∀ i,b∉ob3 i:=by
 constructor
 . cases hx:S3 b with
   | none=>rfl
   | some o =>
     exfalso;rcases h.newS b (by rw[hx];simp) with h1|⟨i,h1⟩|h1
     . exact h1 hS
     . exact ho i h1
     . omega
 . intro i hi;rcases h.fresh i b hi with⟨j,h1⟩|h1
   . exact ho j h1
   . omega
theorem SimD.back {a0 a3:Act} {c2:Ctx} {W W3 W4:World} {S3:Hp} {ob3:Nat->List Nat} {l:Nat} {st3 st':List A} (h:SimD c st a0 W S ob) (hprep:zf8 st=true) (h3:SimD c2 st3 a3 W3 S3 ob3) (hk:zau st st3=some st') (hL:Left W S ob l W3 S3 ob3)
 (hl:l<W.heap.size) (hSl:S l=none) (hol:∀ i,l∉ob i) (hdl:∀ q,hp W l≠some (.deferred q)) (hcl:c.B0 l\/c.w0.heap.size<=l) (hw:∀ b,b≠l->hp W4 b=hp W3 b) (hwf:WF W (fun b=>b=l\/∃ i,b∈ob i) W4)
 (htv:∀ i t x,st[i]?=some (.box t x)->tv a3 i=tv a0 i):∃ ob4,SimD c st' a0 W4 S3 ob4/\(∀ i,l∉ob4 i)/\∀ {i b},b∈ob4 i->b∈ob3 i:=by
 classical
 obtain⟨hSl3,hol3⟩:=hL.outS hl hSl hol
 let ob4:Nat->List Nat:=fun i=>if (∃ t x,st[i]?=some (.box t x)) then ob3 i else []
 have hsub:∀ {i b},b∈ob4 i->b∈ob3 i:=by
  intro i b hb;simp only[ob4] at hb;split at hb
  . exact hb
  . cases hb
 have hne:∀ {i b},b∈ob3 i->b≠l:=fun hb e=>hol3 _ (by rw[<- e];exact hb)
 have hlen:=zed hk;have at':∀ {i:Nat} {y:A},st'[i]?=some y->∃ x:A,st[i]?=some x:=by
  intro i y hy;have:i<st.length:=by
   rcases Nat.lt_or_ge i st.length with h'|h'
   . exact h'
   . rw[List.getElem?_eq_none (by omega)] at hy;cases hy
  exact⟨_,List.getElem?_eq_getElem this⟩
 refine⟨ob4,⟨?_,by rw[hlen];exact h.size,?_,?_,?_,?_,?_,?_,?_,h.mono.trans hL.sub,?_,?_,h.lent,?_⟩,fun i hi=>hol3 i (hsub hi),hsub⟩
 . obtain⟨Ds,e,hnd,hD⟩:=h.defers;refine⟨Ds,e,hnd,fun D hDm=>?_⟩;obtain⟨h1,h2,h4,h5⟩:=hD D hDm;have hDl:D≠l:=fun e=>hdl _ (by rw[<- e];exact h1)
   have hlt:D<W.heap.size:=z5w h1;obtain⟨g1,g2⟩:=hL.outS hlt h2 h4;refine⟨?_,g1,fun i hi=>g2 i (hsub hi),h5⟩;have:=hwf.same D hlt (by rintro (e|⟨i,hi⟩);exact hDl e;exact h4 i hi);simp only[hp];rw[this];exact h1
 . intro i y hy;obtain⟨x,hx⟩:=at' hy;rcases zhm hk i x hx with⟨hbx,t,z,hm,hr⟩|⟨hbx,hr⟩
   . rw[hr] at hy;cases hy;have hbox:∃ t x,st[i]?=some (.box t x):=by
      cases x<;>simp[z8f] at hbx
      exact⟨_,_,hx⟩
     have e4:ob4 i=ob3 i:=by simp only[ob4];rw[if_pos hbox]
     rw[e4];obtain⟨t',x',hx'⟩:=hbox;rw[<- htv i t' x' hx'];exact (h3.rel i _ hm).mono (Sub.refl _) (fun b hb=>hw b (hne hb)) (fun _ _=>rfl)
   . rw[hr] at hy;cases hy;have hnb:¬ ∃ t x,st[i]?=some (.box t x):=by
      rintro⟨t,z,hz⟩;rw[hx] at hz;cases hz;simp[z8f] at hbx
     have e4:ob4 i=[]:=by simp only[ob4];rw[if_neg hnb]
     rw[e4];have hpa:=zld hprep i _ hx;have hrel:=h.rel i _ hx;have hno:y.own=false:=by cases y<;>simp[zst] at hpa<;>simp[z8f] at hbx<;>rfl
     have hnc:y.cell=none:=by cases y<;>simp[zst] at hpa<;>rfl
     rw[hrel.nil_of_not_own hno] at hrel;exact hrel.mono hL.sub (fun b hb=>by cases hb) (fun _ _=>rfl) (fun r hr=>by rw[hnc] at hr;cases hr)
 . intro i y r hy hyr;obtain⟨x,hx⟩:=at' hy;rcases zhm hk i x hx with⟨hbx,t,z,hm,hr⟩|⟨hbx,hr⟩
   . rw[hr] at hy;cases hy;cases hyr
   . rw[hr] at hy;cases hy;obtain⟨u,hu,huo⟩:=h.refs i _ r hx hyr;have hpa:=zld hprep r _ hu;rcases zhm hk r u hu with⟨_,t,z,_,hr'⟩|⟨hbu,hr'⟩
     . exact⟨_,hr',rfl⟩
     . exfalso;cases u<;>simp[A.own] at huo<;>simp[zst] at hpa<;>simp[z8f] at hbu
 . intro i hi;rw[hlen] at hi;simp only[ob4];rw[if_neg (by rintro⟨t,x,hx⟩;rw[List.getElem?_eq_none hi] at hx;cases hx)]
 . exact fun i j b hi hj=>h3.inj i j b (hsub hi) (hsub hj)
 . intro i;simp only[ob4];split
   . exact h3.nd i
   . exact .nil
 . exact fun i b hi=>h3.hid i b (hsub hi)
 . intro b o hbo;rw[hw b (fun e=>by subst e;rw[hSl3] at hbo;cases hbo)];exact h3.sub b o hbo
 . intro i b hi;rcases hL.fresh i b (hsub hi) with⟨j,hj⟩|hge
   . exact h.fresh j b hj
   . exact .inr (Nat.le_trans h.frame.size hge)
 . intro b hb;rcases hL.newS b hb with h1|⟨j,hj⟩|hge
   . exact h.newS b h1
   . exact .inr (h.fresh j b hj)
   . exact .inr (.inr (Nat.le_trans h.frame.size hge))
 . refine h.frame.trans hwf ?_;rintro b (rfl|⟨i,hi⟩)
   . exact hcl
   . exact h.fresh i b hi
theorem zog:∀ {l m r:List A},zau l m=some r->zf8 l=true->zf8 r=true
 | [],[],r,h,hp=>by simp[zau] at h;subst h;rfl
 | [],_::_,r,h,hp=>by simp[zau] at h
 | _::_,[],r,h,hp=>by simp[zau] at h
 | x :: l,y::m,r,h,hp=>by
   obtain⟨h1,h2⟩:=z7 hp;have fin:∀ {z:A} {r':List A},zst z=true->zau l m=some r'->zf8 (z::r')=true:=by
    intro z r' hz hr;show z1i (zst z) (zf8 r')=true;rw[zog hr h2,hz];rfl
   cases x<;>simp only[zau] at h
   case box =>
    cases y<;>simp only[reduceCtorEq] at h
    split at h
    . rename_i r' hr;cases h;exact fin rfl hr
    . cases h
   all_goals
    split at h
    . rename_i r' hr;cases h;exact fin h1 hr
    . cases h
theorem WF.putObj {w0 w:World}{B:Nat->Prop}(h:WF w0 B w){b:Nat}(hb:B b\/w0.heap.size<=b)(o:Obj):WF w0 B (w.putObj b o) :=
 ⟨by have:=h.size;simpa using this,fun i hi hn=>by
  have:i≠b:=fun e=>by subst e;exact hb.elim hn (fun h=>by omega)
  rw[World.putObj_heap_other this];exact h.same i hi hn,h.tape,h.os,h.output⟩
theorem WF.weaken {w0 w:World}{B B':Nat->Prop}(h:WF w0 B w)(hB:∀ b,B b->B' b):WF w0 B' w :=
 ⟨h.size,fun b hb hn=>h.same b hb (fun h'=>hn (hB b h')),h.tape,h.os,h.output⟩
theorem WF.subHp {w w':World}(h:WF w (fun _=>False) w'):Sub (hp w) (hp w'):=fun b o hb=>by
 have:=h.same b (z5w hb) (fun h=>h);simp only[hp] at hb ⊢;rw[this];exact hb
def exJ:Ex->Option Code
 | .normal=>none
 | .exit id=>some (.exit id)
 | .ret=>some .ret
def z7k (fn:FuncId)(tmps:Array Value)(ps:Array Tmp)(assign body:Code)(D:Nat)(s:LoopState)(j:Option Code):Loop :=
 { state:=s,pending:=j,fn:=fn,tmps:=tmps,params:=ps,assign:=assign,body:=body,defers:=D }
theorem zv1 (hb:Base P E c)(hS:Sub c.S0 S){w0:World}{B:Nat->Prop}{st:List A}{a0:Act}:Base P (zxm E st) ⟨w0,S,B,(zjl 0 st).map fun i=>(i,tv a0 i)⟩ :=
 ⟨⟨hb.env.ty,hb.env.fn,hb.env.it,hb.env.mixed⟩,hb.glob.mono hS,by simp[zxm,Function.comp_def]⟩
theorem z11w (hb:Base P E c){N:Nat}{fn:FuncId}{ps:Array Tmp}{assign body:Code}{D l:Nat}{a0:Act}{W:World}{ld:List Dat}{vals:Array Value}{e:Ex}
 (h:SimD c st a0 W S ob) (hprep:zf8 st=true) (hrec:hp W l=some (.loop (z7k fn a0.tmps ps assign body D .ready none))) (hSl:S l=none) (hol:∀ i,l∉ob i) (hcl:c.B0 l\/c.w0.heap.size<=l)
 (hr:z11x E N ps.toList assign body ld st e st') (hvals:TupRel S ld vals.toList) :
 YieldAt Fence.wide 0 P l vals W fun en W4=>en=.returned (.bool (exJ e).isNone)/\∃ S3 ob4,SimD c st' a0 W4 S3 ob4/\Left W S ob l W4 S3 ob4 ∧
  hp W4 l=some (.loop (z7k fn a0.tmps ps assign body D (if (exJ e).isNone then .ready else .done) (exJ e)))/\S3 l=none/\∀ i,l∉ob4 i:=by
 obtain⟨st0,fp,st1,st2,h0,ha,hbody,hk⟩:=hr;have hlt:l<W.heap.size:=z5w hrec;have hdl:∀ q,hp W l≠some (.deferred q):=fun q hq=>by rw[hrec] at hq;cases hq
 let L:List (Nat×Value):=(zjl 0 st).map fun i=>(i,tv a0 i)
 have hLm:∀ p∈L,tv a0 p.1=p.2:=by
  intro p hp';obtain⟨i,_,rfl⟩:=List.mem_map.1 hp';rfl
 let c1:Ctx:=⟨W,S,fun b=>∃ i,b∈ob i,L⟩
 let ar:Act:={ tmps:=a0.tmps,defers:=[] }
 have hs1:SimD c1 st ar W S ob:=h.rebase (l:=l) (fun _ _=>rfl) hSl hol hdl (WF.refl _ _) (Sub.refl _) (fun i b hi=>.inl ⟨i,hi⟩) (fun b hb=>.inl hb) (.inr rfl) rfl hLm;have hb1:Base P (zxm E st) c1:=zv1 hb h.mono;obtain⟨hpl,ob0,hs2⟩:=zyo hb1 _ _ _ _ _ _ _ _ _ h0 hs1 hvals;obtain⟨e1,st1',hp1,hw1⟩:=z6x (β:=Ex×List A) hb1 N assign _ _ _ ha;simp only[zgw,Option.some.injEq,Prod.mk.injEq] at hp1;obtain⟨rfl,rfl⟩:=hp1;have efold:((ps.zip vals).foldl (fun tmps (t,a)=>tmps.setIfInBounds t a) a0.tmps)=(ps.toList.zip vals.toList).foldl (fun tmps p=>tmps.setIfInBounds p.1 p.2) a0.tmps:=by
  rw[<- Array.foldl_toList,Array.toList_zip]
 refine⟨_,_,_,_,run_yield (r:=z7k fn a0.tmps ps assign body D .ready none) hrec (show vals.size=ps.size by simpa using hpl.symm),?_⟩;refine roundIn_of_wpIn (F:=Fence.wide) trivial ?_;have e0:({ tmps:=((z7k fn a0.tmps ps assign body D .ready none).params.zip vals).foldl (fun tmps (t,a)=>tmps.setIfInBounds t a) (z7k fn a0.tmps ps assign body D .ready none).tmps,defers:=[] }:Act) =
  { ar with tmps:=(ps.toList.zip vals.toList).foldl (fun tmps p=>tmps.setIfInBounds p.1 p.2) ar.tmps }:=by
  show ({ tmps:=_,defers:=[] }:Act)={ tmps:=_,defers:=[] }
  rw[<- efold];rfl
 rw[e0];refine hw1 (some l) _ _ W ⟨S,ob0,hs2⟩ ?_;rintro a1 W1 ⟨S1,ob1,hs3⟩;have hL1:Left W S ob l W1 S1 ob1:=⟨hs3.frame.weaken (fun b hb=>.inr hb),hs3.mono,hs3.newS,hs3.fresh⟩
 obtain⟨hSl1,hol1⟩:=hL1.outS hlt hSl hol;have hrec1:hp W1 l=some (.loop (z7k fn a0.tmps ps assign body D .ready none)):=by
  have:=hs3.frame.same l hlt (by rintro⟨i,hi⟩;exact hol i hi);simp only[hp] at hrec ⊢;rw[this];exact hrec
 refine⟨_,run_beginRound hrec1 rfl,?_⟩;generalize hW2:W1.putObj l (.loop { z7k fn a0.tmps ps assign body D .ready none with state:=.busy })=W2;have hsz2:W2.heap.size=W1.heap.size:=by rw[<- hW2];simp
 have hother2:∀ b,b≠l->hp W2 b=hp W1 b:=fun b hbl=>by rw[<- hW2];exact World.putObj_heap_other hbl
 have hrec2:hp W2 l=some (.loop (z7k fn a0.tmps ps assign body D .busy none)):=by
  rw[<- hW2];exact World.putObj_heap_same (z5w hrec1)
 let c2:Ctx:=⟨W2,S1,fun b=>b≠l/\((∃ i,b∈ob1 i)\/(∃ i,b∈ob i)\/W.heap.size<=b),L⟩
 have hne1:∀ {i b},b∈ob1 i->b≠l:=fun hb e=>hol1 _ (by rw[<- e];exact hb)
 have hs4:SimD c2 st1' a1 W2 S1 ob1:=hs3.rebase (l:=l) hother2 hSl1 hol1 (fun q hq=>by rw[hrec1] at hq;cases hq) (WF.refl _ _) (Sub.refl _) (fun i b hi=>.inl ⟨hne1 hi,.inl ⟨i,hi⟩⟩) (fun b hb=>.inl hb)
  (.inl ⟨rfl,fun D hD=>.inl (by
   rcases hD with⟨i,hi⟩|hge
   . exact⟨fun e=>hol i (by rw[<- e];exact hi),.inr (.inl ⟨i,hi⟩)⟩
   . exact⟨fun e=>by subst e;exact absurd hlt (Nat.not_lt.2 hge),.inr (.inr hge)⟩)⟩) rfl hs3.lent
 have hb2:Base P (zxm E st) c2:=zv1 hb (h.mono.trans hL1.sub);obtain⟨e2,st2',hp2,hw2⟩:=z6x (β:=Ex×List A) hb2 N body _ _ _ hbody;simp only[zgw,Option.some.injEq,Prod.mk.injEq] at hp2;obtain⟨rfl,rfl⟩:=hp2;refine hw2 (some l) _ a1 W2 ⟨S1,ob1,hs4⟩ ?_;rintro a3 W3 ⟨S3,ob3,hs5⟩;have hwf2:WF W (fun b=>b=l\/∃ i,b∈ob i) W2:=by rw[<- hW2];exact hL1.wf.putObj (b:=l) (.inl (.inl rfl)) _
 have hL3:Left W S ob l W3 S3 ob3:=by
  have hin:∀ b,c2.B0 b->(∃ i,b∈ob i)\/W.heap.size<=b:=by
   rintro b ⟨_,⟨i,hi⟩|hi|hi⟩
   . exact hL1.fresh i b hi
   . exact .inl hi
   . exact .inr hi
  have hge:∀ b,W2.heap.size<=b->W.heap.size<=b:=fun b hb=>Nat.le_trans hwf2.size hb
  refine⟨hwf2.trans hs5.frame (fun b hb=>(hin b hb).imp (fun h=>.inr h) id),hL1.sub.trans hs5.mono,fun b hb=>?_,fun i b hi=>?_⟩
  . rcases hs5.newS b hb with h1|h1|h1
    . exact hL1.newS b h1
    . exact .inr (hin b h1)
    . exact .inr (.inr (hge b h1))
  . rcases hs5.fresh i b hi with h1|h1
    . exact hin b h1
    . exact .inr (hge b h1)
 obtain⟨hSl3,hol3⟩:=hL3.outS hlt hSl hol;have hrec3:hp W3 l=some (.loop (z7k fn a0.tmps ps assign body D .busy none)):=by
  have:=hs5.frame.same l (z5w hrec2) (fun hbl=>hbl.1 rfl);simp only[hp] at hrec2 ⊢;rw[this];exact hrec2
 have hend:=run_endRound (P:=P) (exJ e2) hrec3;generalize hW4:W3.putObj l (.loop { z7k fn a0.tmps ps assign body D .busy none with state:=if (exJ e2).isNone then .ready else .done,pending:=exJ e2 })=W4 at hend;have hother4:∀ b,b≠l->hp W4 b=hp W3 b:=fun b hbl=>by rw[<- hW4];exact World.putObj_heap_other hbl
 have hrec4:hp W4 l=some (.loop (z7k fn a0.tmps ps assign body D (if (exJ e2).isNone then .ready else .done) (exJ e2))):=by
  rw[<- hW4];exact World.putObj_heap_same (z5w hrec3)
 have hwf4:WF W (fun b=>b=l\/∃ i,b∈ob i) W4:=by rw[<- hW4];exact hL3.wf.putObj (b:=l) (.inl (.inl rfl)) _
 obtain⟨ob4,hs6,hol4,hob4⟩:=h.back hprep hs5 hk hL3 hlt hSl hol hdl hcl hother4 hwf4 (fun i t x hi=>by
  exact hs5.lent (i,tv a0 i) (List.mem_map.2 ⟨i,znt.2 ⟨i,t,x,by omega,hi⟩,rfl⟩))
 have hfin:(Ending.returned (.bool (exJ e2).isNone))=.returned (.bool (exJ e2).isNone)/\∃ S3 ob4,SimD c st' a0 W4 S3 ob4/\Left W S ob l W4 S3 ob4 ∧
  hp W4 l=some (.loop (z7k fn a0.tmps ps assign body D (if (exJ e2).isNone then .ready else .done) (exJ e2)))/\S3 l=none/\∀ i,l∉ob4 i :=
  ⟨rfl,S3,ob4,hs6,⟨hwf4,hL3.sub,hL3.newS,fun i b hi=>hL3.fresh i b (hob4 hi)⟩,hrec4,hSl3,hol4⟩
 cases e2 with
 | normal=>exact⟨_,_,hend,hfin⟩
 | exit id=>exact⟨_,_,hend,hfin⟩
 | ret=>exact⟨_,_,hend,hfin⟩
theorem z1gq {f:Nat}{t:T}{x:t.den}{v:Value}(h:VR S (.fn f t) x v):∃ caps:Array Value,v=.func (.func f) #[] caps/\Rd S t x caps.toList:=by
 unfold VR at h;simp only[T.isAgg,Bool.false_eq_true,if_false] at h;obtain⟨caps,ev,hrd⟩:=h;simp only[List.cons.injEq,and_true] at ev;exact⟨caps,ev,hrd⟩
theorem SimD.away (h:SimD c st a w S ob)(hw:∀ b,(S b≠none\/(∃ i,b∈ob i)\/zbc b∈a.defers)->hp w' b=hp w b)(hf:WF c.w0 c.B0 w'):SimD c st a w' S ob:=by
 refine⟨?_,h.size,fun i x hx=>?_,h.refs,h.out,h.inj,h.nd,h.hid,fun b o hb=>?_,h.mono,h.fresh,h.newS,h.lent,hf⟩
 . obtain⟨Ds,e,hnd,hD⟩:=h.defers;refine⟨Ds,e,hnd,fun D hDm=>?_⟩;obtain⟨h1,h2⟩:=hD D hDm;refine⟨?_,h2⟩;rw[hw D (.inr (.inr (by rw[e];exact List.mem_map.2 ⟨D,hDm,rfl⟩)))];exact h1
 . exact (h.rel i x hx).mono (Sub.refl _) (fun b hb=>hw b (.inr (.inl ⟨i,hb⟩))) (fun _ _=>rfl) (fun r hr b hb=>hw b (.inr (.inl ⟨r,h.main hx (A.cell_refs hr) hb⟩)))
 . rw[hw b (.inl (by rw[hb];simp))];exact h.sub b o hb
theorem SimD.merge {S1:Hp}(h:SimD c st a w S ob)(h1:Sub S1 (hp w))(h2:∀ b,S1 b≠none->S b=none->(∀ i,b∉ob i)/\zbc b∉a.defers/\(c.B0 b\/c.w0.heap.size<=b)) :
 ∃ S',SimD c st a w S' ob/\Sub S S'/\Sub S1 S'/\∀ b,S' b≠none->S b≠none\/S1 b≠none:=by
 let S':Hp:=fun b=>match S b with
  | some o=>some o
  | none=>S1 b
 have e1:∀ {b o},S b=some o->S' b=some o:=fun hb=>by simp only[S',hb]
 have e2:∀ {b},S b=none->S' b=S1 b:=fun hb=>by simp only[S',hb]
 have hS:Sub S S':=fun b o hb=>e1 hb
 have hmk:Marks c a.defers w S' ob:=by
  obtain⟨Ds,e,hnd,hDs⟩:=h.defers;refine⟨Ds,e,hnd,fun D hDm=>?_⟩;obtain⟨k1,k2,k3,k4⟩:=hDs D hDm;refine⟨k1,?_,k3,k4⟩;rw[e2 k2];cases hx:S1 D with
  | none=>rfl
  | some o=>exact absurd (by rw[e];exact List.mem_map.2 ⟨D,hDm,rfl⟩) (h2 D (by rw[hx];simp) k2).2.1
 refine⟨S',⟨hmk,h.size,fun i x hx=>(h.rel i x hx).mono hS (fun _ _=>rfl) (fun _ _=>rfl) (fun _ _ _ _=>rfl),h.refs,h.out,h.inj,h.nd,fun i b hi=>?_,fun b o hb=>?_,h.mono.trans hS,h.fresh,fun b hb=>?_,h.lent,h.frame⟩,hS,fun b o hb=>?_,fun b hb=>?_⟩
 . have:=h.hid i b hi;rw[e2 this];cases hx:S1 b with
   | none=>rfl
   | some o=>exact absurd hi ((h2 b (by rw[hx];simp) this).1 i)
 . cases hs:S b with
   | some o'=>rw[e1 hs] at hb;cases hb;exact h.sub b _ hs
   | none=>rw[e2 hs] at hb;exact h1 b o hb
 . cases hs:S b with
   | some o'=>exact h.newS b (by rw[hs];simp)
   | none=>rw[e2 hs] at hb;exact .inr (h2 b hb hs).2.2
 . cases hs:S b with
   | some o' =>
     have:=h.sub b _ hs;rw[h1 b o hb] at this;cases this;exact e1 hs
   | none=>rw[e2 hs];exact hb
 . cases hs:S b with
   | some o'=>exact .inl (by simp)
   | none=>rw[e2 hs] at hb;exact .inr hb
theorem z11z {β : Type} (hb:Base P E c) (N:Nat) (live:List Nat) (g:Operand) (ps:Array Tmp) (assign body:Code):z10 (β:=β) P c (.rangeFunc g ps assign body) (rfEv E N live g ps assign body):=by
 intro st K y h;unfold rfEv at h;obtain⟨d,st1,fp1,h1,h2⟩:=z1t h;split at h2
 case h_2=>cases h2
 rename_i f t x;split at h2
 case h_2=>cases h2
 rename_i hprep;generalize hst2:restr live 0 st1=st2 at h2 hprep;cases hxs:(E.it f ⟨t,x⟩).val with
 | none=>rw[hxs] at h2;cases h2
 | some xs =>
 rw[hxs] at h2;simp only[Option.bind_some] at h2;obtain⟨es,sts,hpath,hK⟩:=zv2 (ok:=fun y=>z11x E N ps.toList assign body (mkL (E.it f ⟨t,x⟩).ts y)) (fun y st K r hr=>z11y hr) _ _ _ _ h2;refine⟨es,sts,hK,fun Q a w hs hq=>(wpIn_wide (n:=0)).1 ?_⟩;obtain⟨S,ob,hs⟩:=hs;obtain⟨S1,ob1,hs1,hS1,hv⟩:=z1f5 h1 hs (hb.globS hs);obtain⟨caps,ev,hrd⟩:=z1gq hv;obtain⟨ob2,hs2⟩:=hs1.restr live;rw[hst2] at hs2;rcases hb.env.it f with hno|⟨⟨fn',hf,hbody',hname⟩,hit⟩
 . rw[hno] at hxs;cases hxs
 -- the loop's record
 let D:=w.heap.size
 let l:=w.heap.size+1
 let a0:Act:={ a with defers:=zbc D::a.defers }
 obtain⟨hs3,hD1,hD2,hD3⟩:=hs2.pushed (.deferred (some []));refine wpIn_rangeFunc fun fn _=>?_
 let rc:=z7k fn a.tmps ps assign body D
 obtain⟨hs4,hl1,hl2,hl3⟩:=hs3.pushed (.loop (rc .ready none));generalize hw1:pushed (pushed w (.deferred (some []))) (.loop (rc .ready none))=w1 at hs4;have hsz:(pushed w (.deferred (some []))).heap.size=l:=by simp[pushed,l]
 rw[hsz] at hl1 hl2 hl3;have hrec:hp w1 l=some (.loop (rc .ready none)):=by rw[<- hw1,<- hsz];exact z4x _ _
 have hDw:hp w1 D=some (.deferred (some [])):=by
  rw[<- hw1];exact zei _ _ _ _ (z4x _ _)
 have hs5:SimD c st2 a0 w1 S1 ob2:=by
  refine⟨?_,hs4.size,hs4.rel,hs4.refs,hs4.out,hs4.inj,hs4.nd,hs4.hid,hs4.sub,hs4.mono,hs4.fresh,hs4.newS,hs4.lent,hs4.frame⟩;obtain⟨Ds,e,hnd,hDs⟩:=hs2.defers;obtain⟨Ds',e',_,hDs'⟩:=hs4.defers;refine⟨D::Ds,by show zbc D::a.defers=_;rw[e];rfl,List.nodup_cons.2 ⟨fun hm=>?_,hnd⟩,fun B hB=>?_⟩
  . exact absurd (z5w (hDs D hm).1) (Nat.lt_irrefl _)
  . rcases List.mem_cons.1 hB with rfl|hB
    . exact⟨hDw,hD2,hD1,hD3⟩
    . obtain⟨k1,k2,k3,k4⟩:=hDs B hB;refine⟨?_,k2,k3,k4⟩;rw[<- hw1];exact zei _ _ _ _ (zei _ _ _ _ k1)
 refine⟨l,[zbc D],w1,{ target:=.fn (.func f) caps,args:=#[.func (.yield l) #[] #[]] },w1,f,#[.func (.yield l) #[] #[]]++caps,w1,?_,?_,fun _ _=>trivial,?_,fun hd=>by simp[Fence.wide] at hd,?_⟩
 . rw[show Fence.wide.round=none from rfl,run_enterLoop_outer,<- hw1];rfl
 . simp[resolve,rangeCall,ev,Deferred.ofValue];rfl
 . have hbn:fn'.body≠none:=by intro e;rw[e] at hbody';simp at hbody'
   simp[invoke,callFunc,hf,hbn,hname]
 . let ok := fun y:z3l (E.it f ⟨t,x⟩).ts=>z11x E N ps.toList assign body (mkL (E.it f ⟨t,x⟩).ts y)
   let base:(Nat->Prop)->Hp->World->Hp->(Nat->List Nat)->Prop:=fun O Sh W S' ob'=>Sub Sh S'/\(∀ b,S' b≠none->O b\/Sh b≠none)/\(∀ i b,b∈ob' i->O b)/\(∀ b,b<w1.heap.size->O b)/\S' l=none/\(∀ i,l∉ob' i)
   let J:List (z3l (E.it f ⟨t,x⟩).ts)->(Nat->Prop)->Hp->World->Prop:=fun ys O Sh W=>∃ st S' ob',SimD c st a0 W S' ob'/\zf8 st=true/\base O Sh W S' ob'/\hp W l=some (.loop (rc .ready none))/\Path ok ys st es sts
   let Jx:(Nat->Prop)->Hp->World->Prop:=fun O Sh W=>es ≠ .normal/\∃ S' ob',SimD c sts a0 W S' ob'/\base O Sh W S' ob'/\hp W l=some (.loop (rc .done (exJ es)))
   have hcl:c.B0 l\/c.w0.heap.size<=l:=hl3;have hlw:l<w1.heap.size:=z5w hrec;have hmarks:∀ D,zbc D∈a0.defers->D<w1.heap.size:=by
    intro D' hD';obtain⟨Ds,e,hnd,hDs⟩:=hs5.defers;rw[e] at hD';obtain⟨D2,hm2,e2⟩:=List.mem_map.1 hD';have:D2=D':=by simpa[zbc] using e2
    subst this;exact z5w (hDs D2 hm2).1
   have stable : ∀ {st:List A} {O:Nat->Prop} {Sh:Hp} {W W':World} {S':Hp} {ob':Nat->List Nat},SimD c st a0 W S' ob'->base O Sh W S' ob'->WF W (fun b=>¬ O b) W'->Sub Sh (hp W')->SimD c st a0 W' S' ob':=by
    rintro st O Sh W W' S' ob' hs ⟨b1,b2,b3,b4,b5,b6⟩ hw hsh;have hO:∀ b,O b->b<W.heap.size->hp W' b=hp W b:=fun b hb hlt=>hw.same b hlt (fun h=>h hb)
    refine hs.away (fun b hb=>?_) (hs.frame.trans hw fun b hb=>.inr ?_)
    . rcases hb with hb|⟨i,hb⟩|hb
      . cases hx:S' b with
        | none=>exact absurd hx hb
        | some o =>
          have h1:=hs.sub b o hx;rcases b2 b hb with h2|h2
          . exact hO b h2 (z5w h1)
          . cases hy:Sh b with
            | none=>exact absurd hy h2
            | some o' =>
              have:=b1 b o' hy;rw[hx] at this;cases this;rw[h1,hsh b _ hy]
      . obtain⟨_,_,o,ho⟩:=hs.ob_some hb;exact hO b (b3 i b hb) (z5w ho)
      . have:=hmarks b hb;refine hO b (b4 b this) ?_;obtain⟨Ds,e,hnd,hDs⟩:=hs.defers;rw[e] at hb;obtain⟨D2,hm2,e2⟩:=List.mem_map.1 hb;have e3:D2=b:=by simpa[zbc] using e2
        subst e3;exact z5w (hDs D2 hm2).1
    . rcases Nat.lt_or_ge b w1.heap.size with h|h
      . exact absurd (b4 b h) hb
      . exact Nat.le_trans hs5.frame.size h
   have hrecS:∀ {O:Nat->Prop} {Sh:Hp} {W W':World} {S':Hp} {ob':Nat->List Nat} {r:Loop},base O Sh W S' ob'->WF W (fun b=>¬ O b) W'->hp W l=some (.loop r)->hp W' l=some (.loop r):=by
    rintro O Sh W W' S' ob' r ⟨b1,b2,b3,b4,b5,b6⟩ hw hr;have:=hw.same l (z5w hr) (fun h=>h (b4 l hlw));simp only[hp] at hr ⊢;rw[this];exact hr
   refine callsIn_wide.2 ((hit w1 S1 ⟨t,x⟩ caps hrd hs5.sub (hb.globS hs5) xs hxs l J Jx ?_ ?_ ?_ ?_).mono ?_)
   . rintro ys O Sh W W' ⟨st,S',ob',k1,k2,k3,k4,k7⟩ hw hsh;exact⟨st,S',ob',stable k1 k3 hw hsh,k2,k3,hrecS k3 hw k4,k7⟩
   . rintro O Sh W W' ⟨k0,S',ob',k1,k3,k4⟩ hw hsh;exact⟨k0,S',ob',stable k1 k3 hw hsh,k3,hrecS k3 hw k4⟩
   . rintro y ys O Sh S2 W1 vals ⟨st,S',ob',k1,k2,⟨b1,b2,b3,b4,b5,b6⟩,k4,k7⟩ hsh hS2 hnew hvals;have key:∃ e st',ok y st e st'/\((e=.normal/\Path ok ys st' es sts)\/(e ≠ .normal/\e=es/\st'=sts)):=by
      cases k7 with
      | more hy hp'=>exact⟨_,_,hy,.inl ⟨rfl,hp'⟩⟩
      | out hy he=>exact⟨_,_,hy,.inr ⟨he,rfl,rfl⟩⟩
     obtain⟨e,st',hy,hcase⟩:=key;have hn:∀ b,S2 b≠none->S' b=none->¬ O b:=fun b hb hb'=>(hnew b hb).elim (fun h=>by
      cases hx:Sh b with
      | none=>exact absurd hx h
      | some o=>rw[b1 b o hx] at hb';cases hb') id
     obtain⟨S'',m1,m2,m3,m4⟩:=k1.merge hS2 (fun b hb hb'=>⟨fun i hi=>hn b hb hb' (b3 i b hi),fun hm=>hn b hb hb' (b4 b (hmarks b hm)),.inr (by
      rcases Nat.lt_or_ge b w1.heap.size with h|h
      . exact absurd (b4 b h) (hn b hb hb')
      . exact Nat.le_trans hs5.frame.size h)⟩)
     have b5':S'' l=none:=by
      cases hx:S'' l with
      | none=>rfl
      | some o =>
        rcases m4 l (by rw[hx];simp) with h|h
        . exact absurd b5 h
        . exact absurd (b4 l hlw) (hn l h b5)
     obtain⟨fn1,tm1,as1,bo1,r1,r2⟩:=z11w hb m1 k2 k4 b5' b6 hcl hy (hvals.mono m3);refine⟨fn1,tm1,as1,bo1,r1,r2.mono ?_⟩;rintro en W4 ⟨rfl,S3,ob4,q1,q2,q3,q4,q5⟩;have hin:∀ b,(b=l\/∃ i,b∈ob' i)->O b:=by
      rintro b (rfl|⟨i,hi⟩)
      . exact b4 _ hlw
      . exact b3 i b hi
     have hb':base (fun b=>O b\/(W1.heap.size<=b/\b<W4.heap.size)) S2 W4 S3 ob4:=by
      refine⟨m3.trans q2.sub,fun b hb=>?_,fun i b hi=>?_,fun b hb=>.inl (b4 b hb),q4,q5⟩
      . rcases q2.newS b hb with h|⟨i,h⟩|h
        . rcases m4 b h with h|h
          . rcases b2 b h with h|h
            . exact .inl (.inl h)
            . refine .inr ?_;cases hx:Sh b with
              | none=>exact absurd hx h
              | some o=>rw[hsh b o hx];simp
          . exact .inr h
        . exact .inl (.inl (b3 i b h))
        . refine .inl (.inr ⟨h,?_⟩);cases hx:S3 b with
          | none=>exact absurd hx hb
          | some o=>exact z5w (q1.sub b o hx)
      . rcases q2.fresh i b hi with⟨j,h⟩|h
        . exact .inl (b3 j b h)
        . obtain⟨_,_,o,ho⟩:=q1.ob_some hi;exact .inr ⟨h,z5w ho⟩
     refine⟨fun b=>O b\/(W1.heap.size<=b/\b<W4.heap.size),fun b hb=>.inl hb,fun b hb=>hb,q2.wf.weaken hin,(m3.trans q2.sub).trans q1.sub,?_⟩;rcases hcase with⟨rfl,hp'⟩|⟨he,rfl,rfl⟩
     . refine .inl ⟨rfl,st',S3,ob4,q1,?_,hb',q3,hp'⟩;obtain⟨_,_,_,_,_,_,_,hk⟩:=hy;exact zog hk k2
     . refine .inr ⟨?_,he,S3,ob4,q1,hb',?_⟩
       . cases e<;>first|exact absurd rfl he|rfl
       . cases e<;>first|exact absurd rfl he|exact q3
   . refine⟨st2,S1,ob2,hs5,hprep,⟨Sub.refl _,fun b hb=>.inr hb,fun i b hi=>?_,fun b hb=>hb,hl2,hl1⟩,hrec,hpath⟩;obtain⟨_,_,o,ho⟩:=hs5.ob_some hi;exact z5w ho
   . rintro e W' ⟨⟨v,rfl⟩,O,Sh,hJ⟩;have fin:∀ {S':Hp} {ob':Nat->List Nat} {s:LoopState},SimD c sts a0 W' S' ob'->hp W' l=some (.loop (rc s (exJ es)))->s ≠ .busy->S' l=none->(∀ i,l∉ob' i) →
      ∃ jump w4,(Instr.endLoop l).run P W'=.ok jump w4/\(match jump with
        | none=>Q .normal a0 w4
        | some c=>c.wpIn Fence.wide 0 P Q a0 w4):=by
      intro S' ob' s k1 k4 hsb k5 k6;refine⟨_,_,run_endLoop k4 hsb,?_⟩;have hsim:Sim c sts a0 (W'.putObj l (.loop { rc s (exJ es) with state:=.exhausted })) :=
       ⟨S',ob',k1.rebase (l:=l) (fun b hb=>World.putObj_heap_other hb) k5 k6 (fun q hq=>by rw[k4] at hq;cases hq) (k1.frame.putObj hcl _) k1.mono k1.fresh k1.newS (.inl ⟨rfl,fun D hD=>hD⟩) rfl k1.lent⟩
      have:=hq _ _ hsim;show (match exJ es with
       | none=>Q .normal a0 _
       | some c=>c.wpIn Fence.wide 0 P Q a0 _)
      cases es with
      | normal=>exact this
      | exit id=>exact wpIn_exit this
      | ret=>exact wpIn_ret this
     rcases hJ with⟨st,S',ob',k1,k2,⟨_,_,_,_,k5,k6⟩,k4,k7⟩|⟨he,S',ob',k1,⟨_,_,_,_,k5,k6⟩,k4⟩
     . cases k7;exact fin k1 k4 (by simp) k5 k6
     . exact fin k1 k4 (by simp) k5 k6
end
end
end Go.Lift
