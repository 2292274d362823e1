import Derived.Test.YtlhdohlpilippaaDoorLgS
import Derived.Scope
set_option linter.all false
namespace Go.Lift
noncomputable section
inductive AS where
 | v (t:T)|row (t:T)|box (t:T)|nilsl|tup (ts:List T)|iter|nilp|fnc (f:Nat)|yld|ov (t:T)|otup (ts:List T)|clo (f:Nat) (rs:List Nat)
 deriving DecidableEq
@[reducible] def AS.den:AS->Type
 | .v t=>t.den
 | .row t=>List t.den
 | .box t=>t.den
 | .nilsl=>Unit
 | .tup ts=>z3l ts
 | .iter=>List UInt8×Nat
 | .nilp=>Unit
 | .fnc _=>Unit
 | .yld=>Unit
 | .ov t=>t.den
 | .otup ts=>z3l ts
 | .clo _ _=>Unit
def AS.mk:(s:AS)->s.den->A
 | .v t,x=>.v t x
 | .row t,x=>.row t x
 | .box t,x=>.box t x
 | .nilsl,_=>.nilsl
 | .tup ts,x=>.tup (mkL ts x)
 | .iter,x=>.iter x.1 x.2
 | .nilp,_=>.v .opq (.pointer none)
 | .fnc f,_=>.v .opq (.func (.func f) #[] #[])
 | .yld,_=>.yld
 | .ov t,x=>.ov t x
 | .otup ts,x=>.otup (mkL ts x)
 | .clo f rs,_=>.clo f rs
def unL:(ts:List T)->List Dat->Option (z3l ts)
 | [],[]=>some ()
 | t :: ts,d::l=>match cast d.1 t d.2 with
   | some x=>(match unL ts l with
     | some y=>some (x,y)
     | none=>none)
   | none=>none
 | _,_=>none
def zri:List Nat->List Nat->Bool
 | [],[]=>true
 | x::l,y::m=>z1i (Nat.beq x y) (zri l m)
 | _,_=>false
theorem zrh:∀ {l m:List Nat},zri l m=true->l=m
 | [],[],_=>rfl
 | x::l,y::m,h=>by rw[Nat.eq_of_beq_eq_true (z7 h).1,zrh (z7 h).2]
 | [],_::_,h=>by simp[zri] at h
 | _::_,[],h=>by simp[zri] at h
def AS.un:(s:AS)->A->Option s.den
 | .v t,.v u x=>cast u t x
 | .row t,.row u x=>cast (.sl u) (.sl t) x
 | .box t,.box u x=>cast u t x
 | .nilsl,.nilsl=>some ()
 | .tup ts,.tup l=>unL ts l
 | .iter,.iter s p=>some (s,p)
 | .yld,.yld=>some ()
 | .ov t,.ov u x=>cast u t x
 | .otup ts,.otup l=>unL ts l
 | .clo f rs,.clo g rs'=>(match z1i (Nat.beq f g) (zri rs rs') with
   | true=>some ()
   | false=>none)
 | .nilp,.v .opq x=>(match x with
   | .pointer none=>some ()
   | _=>none)
 | .fnc f,.v .opq x=>(match x with
   | .func (.func g) a b=>(match z1i (Nat.beq f g) (z1i a.isEmpty b.isEmpty) with
     | true=>some ()
     | false=>none)
   | _=>none)
 | _,_=>none
@[reducible] def z1k:List (Nat×AS)->Type
 | []=>Unit
 | p::r=>p.2.den×z1k r
def z39 (n:Nat)(l:List A):List A:=match n with
 | 0=>l
 | n+1=>.dead::z39 n l
def mkS:(s:List (Nat×AS))->Nat->z1k s->List A
 | [],m,_=>z39 m []
 | p::r,m,x=>z39 p.1 (p.2.mk x.1::mkS r m x.2)
def zhv {α:Type} (n:Nat) (l:List A) (k:List A->Option α):Option α:=match n with
 | 0=>k l
 | n+1=>match l with
   | .dead::l=>zhv n l k
   | _=>none
def unS : (s:List (Nat×AS))->Nat->List A->Option (z1k s)
 | [],m,l=>zhv m l fun l=>match l with
   | []=>some ()
   | _=>none
 | p :: r,m,l=>zhv p.1 l fun l=>match l with
   | a :: l=>(match p.2.un a with
     | some x=>(match unS r m l with
       | some y=>some (x,y)
       | none=>none)
     | none=>none)
   | []=>none
theorem zuj:∀ {ts:List T} {l:List Dat} {x:z3l ts},unL ts l=some x->l=mkL ts x
 | [],[],_,_=>rfl
 | t :: ts,d::l,x,h=>by
   simp only[unL] at h;split at h
   . rename_i y hy;split at h
     . rename_i z hz;cases h;obtain⟨e,e'⟩:=z12 hy;obtain⟨u,d⟩:=d;dsimp only at e;subst e;dsimp only at e';subst e';simp only[mkL];rw[<- zuj hz]
     . cases h
   . cases h
 | [],_::_,_,h=>by simp[unL] at h
 | _::_,[],_,h=>by simp[unL] at h
theorem AS.un_nilp {a:A}(h:AS.un .nilp a=some ()):a=.v .opq (.pointer none):=by
 cases a<;>try (simp[AS.un] at h;done)
 case v t x =>
  cases t<;>try (simp[AS.un] at h;done)
  simp only[AS.un] at h;split at h
  . rfl
  . cases h
theorem AS.un_fnc {f:Nat} {a:A} (h:AS.un (.fnc f) a=some ()):a=.v .opq (.func (.func f) #[] #[]):=by
 cases a<;>try (simp[AS.un] at h;done)
 case v t x =>
  cases t<;>try (simp[AS.un] at h;done)
  simp only[AS.un] at h;split at h
  . rename_i g a b;split at h
    . rename_i hc;obtain⟨h1,h2⟩:=z7 hc;obtain⟨h2,h3⟩:=z7 h2;have h1:=Nat.eq_of_beq_eq_true h1;have h2:a=#[]:=by simpa using h2
      have h3:b=#[]:=by simpa using h3
      subst h1;subst h2;subst h3;rfl
    . cases h
  . cases h
theorem AS.un_mk {s:AS}{a:A}{x:s.den}(h:s.un a=some x):a=s.mk x:=by
 by_cases hn:s=.nilp
 . subst hn;exact AS.un_nilp h
 by_cases hf:∃ f,s=.fnc f
 . obtain⟨f,rfl⟩:=hf;exact AS.un_fnc h
 cases s<;>cases a<;>simp only[AS.un,reduceCtorEq] at h
 case v.v t u y=>obtain⟨e,e'⟩:=z12 h;subst e;dsimp only at e';subst e';rfl
 case row.row t u y=>obtain⟨e,e'⟩:=z12 h;cases e;dsimp only at e';subst e';rfl
 case box.box t u y=>obtain⟨e,e'⟩:=z12 h;subst e;dsimp only at e';subst e';rfl
 case nilsl.nilsl=>rfl
 case tup.tup ts l=>rw[zuj h];rfl
 case iter.iter s p=>cases h;rfl
 case yld.yld=>rfl
 case ov.ov t u y=>obtain⟨e,e'⟩:=z12 h;subst e;dsimp only at e';subst e';rfl
 case otup.otup ts l=>rw[zuj h];rfl
 case clo.clo f rs g rs' =>
  split at h
  . rename_i hc;obtain⟨h1,h2⟩:=z7 hc;rw[<- Nat.eq_of_beq_eq_true h1,<- zrh h2];rfl
  . cases h
 all_goals first
  | (exact absurd rfl hn)
  | (exact absurd ⟨_,rfl⟩ hf)
theorem zdb {α:Type}{k:List A->Option α}{y:α}:∀ {n:Nat} {l:List A},zhv n l k=some y->∃ l',l=z39 n l'/\k l'=some y
 | 0,l,h=>⟨l,rfl,h⟩
 | n + 1,l,h=>by
   simp only[zhv] at h;split at h
   . obtain⟨l',e,hk⟩:=zdb h;exact⟨l',by simp only[z39];rw[e],hk⟩
   . cases h
theorem zda:∀ {s:List (Nat×AS)} {m:Nat} {l:List A} {x:z1k s},unS s m l=some x->l=mkS s m x
 | [],m,l,x,h=>by
   simp only[unS] at h;obtain⟨l',e,hk⟩:=zdb h;split at hk
   . rw[e];rfl
   . cases hk
 | p :: r,m,l,x,h=>by
   simp only[unS] at h;obtain⟨l',e,hk⟩:=zdb h;split at hk
   . rename_i a l2;split at hk
     . rename_i y hy;split at hk
       . rename_i z hz;cases hk;rw[e,AS.un_mk hy,zda hz];rfl
       . cases hk
     . cases hk
   . cases hk
abbrev Hd (β:Type):=List A->(Ex->List A->Option β)->Option β
abbrev Tab (β:Type):=List (List Nat×Hd β)
def eqL:List Nat->List Nat->Bool
 | [],[]=>true
 | a::l,b::m=>(match Nat.beq a b with
   | true=>eqL l m
   | false=>false)
 | _,_=>false
def zj8 {β:Type}:Tab β->List Nat->Option (Hd β)
 | [],_=>none
 | e::r,p=>match eqL e.1 p with
   | true=>some e.2
   | false=>zj8 r p
def zws:List (List Nat×List Nat)->List Nat->List Nat
 | [],_=>[]
 | e::r,p=>match eqL e.1 p with
   | true=>e.2
   | false=>zws r p
def z1d8:List (List Nat×List Nat)->List Nat->Option (List Nat)
 | [],_=>none
 | e::r,p=>match eqL e.1 p with
   | true=>some e.2
   | false=>z1d8 r p
def rs (L:List (List Nat×List Nat))(p:List Nat)(st:List A):List A:=match z1d8 L p with
 | some l=>restr l 0 st
 | none=>st
def via {β:Type}(o:Option (Hd β))(f:Hd β):Hd β:=match o with
 | some h=>h
 | none=>f
def zzt {β:Type}(L:List (List Nat×List Nat))(p:List Nat)(K:Ex->List A->Option β):Ex->List A->Option β:=fun e st=>match e with
 | .normal=>K .normal (rs L p st)
 | e=>K e st
def evN {β:Type} (E:Env) (N:Nat) (H:Tab β) (L:List (List Nat×List Nat)) (p:List Nat):Code->List A->(Ex->List A->Option β)->Option β
 | .skip,st,K=>K .normal (rs L p st)
 | .region _ ops draw,st,K=>match draw with
   | false=>z11v E ops ops.toList st fun st=>K .normal (rs L p st)
   | true=>zik E ops ops.toList [] st fun st=>K .normal (rs L p st)
 | .seq a b,st,K=>via (zj8 H (0::p)) (evN E N H L (0::p) a) st fun e st=>match e with
   | .normal=>via (zj8 H (1::p)) (evN E N H L (1::p) b) st K
   | e=>K e st
 | .cond x a b,st,K=>(rdK E x fun v=>(.ret v:Cmd A)).cps E st fp0 fun v _ _=>match v with
   | .v .bool t=>cond t (via (zj8 H (0::p)) (evN E N H L (0::p) a) st (zzt L p K)) (via (zj8 H (1::p)) (evN E N H L (1::p) b) st (zzt L p K))
   | _=>none
 | .block id a,st,K=>via (zj8 H (0::p)) (evN E N H L (0::p) a) st fun e st=>match e with
   | .normal=>K .normal (rs L p st)
   | .exit j=>(match Nat.beq j id with
     | true=>K .normal (rs L p st)
     | false=>K (.exit j) st)
   | .ret=>K .ret st
 | .loop a,st,K=>zc5 (zws L p) (via (zj8 H (0::p)) (evN E N H L (0::p) a)) N (restr (zws L p) 0 st) K
 | .rangeFunc g ps assign body,st,K=>rfEv E N (zws L p) g ps assign body st K
 | .exit id,st,K=>K (.exit id) (rs L p st)
 | .scope a,st,K=>via (zj8 H (0::p)) (evN E N H L (0::p) a) st K
 | .label _,st,K=>K .normal st
 | .ret,st,K=>K .ret (rs L p st)
 | _,_,_=>none
def z7m (i:Nat):Code->Code
 | .seq a b=>(match i with
   | 0=>a
   | _=>b)
 | .cond _ a b=>(match i with
   | 0=>a
   | _=>b)
 | .block _ a=>a
 | .loop a=>a
 | .scope a=>a
 | c=>c
def zl (body:Code):List Nat->Code
 | []=>body
 | i::p=>z7m i (zl body p)
def TabOk {β:Type}(P:Program)(c:Ctx)(body:Code)(H:Tab β):Prop:=∀ q h,zj8 H q=some h->z10 P c (zl body q) h
section
variable {P:Program} {E:Env} {c:Ctx} {st st':List A} {fp fp':FP} {a:Act} {w w':World} {S:Hp} {ob:Nat->List Nat}
theorem Sim.rs (h:Sim c st a w)(L:List (List Nat×List Nat))(p:List Nat):Sim c (Lift.rs L p st) a w:=by
 unfold Lift.rs;split
 . exact h.restr _
 . exact h
theorem z106:∀ {l m:List Nat},eqL l m=true->l=m
 | [],[],_=>rfl
 | a :: l,b::m,h=>by
   simp only[eqL] at h;split at h
   . rename_i hab;rw[Nat.eq_of_beq_eq_true hab,z106 h]
   . cases h
 | [],_::_,h=>by simp[eqL] at h
 | _::_,[],h=>by simp[eqL] at h
theorem TabOk.nil {β:Type}{body:Code}:TabOk (β:=β) P c body []:=fun q h e=>by cases e
theorem TabOk.cons {β:Type}{body:Code}{q:List Nat}{k:Hd β}{H:Tab β}(h:z10 P c (zl body q) k)(ht:TabOk P c body H):TabOk P c body ((q,k)::H):=by
 intro q' h' e;simp only[zj8] at e;split at e
 . rename_i hq;cases e;rw[<- z106 hq];exact h
 . exact ht q' h' e
theorem zkg {β:Type}{body k:Code}{H:Tab β}{q:List Nat}{f:Hd β}(hH:TabOk P c body H)(hq:zl body q=k)(hf:z10 P c k f):z10 P c k (via (zj8 H q) f):=by
 cases hl:zj8 H q with
 | none=>exact hf
 | some h=>rw[<- hq];exact hH q h hl
theorem zi {β:Type} (hb:Base P E c) (N:Nat) (H:Tab β) (L:List (List Nat×List Nat)) (body:Code) (hH:TabOk P c body H) (p:List Nat):∀ (k:Code),zl body p=k->z10 (β:=β) P c k (evN E N H L p k):=by
 intro k
 induction k generalizing p with
 | skip=>exact fun _ st K y h=>⟨.normal,_,h,fun Q a w hs hq=>wp_skip (hq a w (hs.rs _ _))⟩
 | region id ops draw =>
   intro _ st K y h;obtain⟨e,st',hK,hw⟩:=(z6x (β:=β) hb N (.region id ops draw)).ok st (fun e st=>match e with
    | .normal=>K .normal (rs L p st)
    | e=>K e st) y h
   cases e with
   | normal=>exact⟨.normal,_,hK,fun Q a w hs hq=>hw Q a w hs fun a' w' hs'=>hq a' w' (hs'.rs _ _)⟩
   | exit id=>exact⟨.exit id,_,hK,fun Q a w hs hq=>hw Q a w hs hq⟩
   | ret=>exact⟨.ret,_,hK,fun Q a w hs hq=>hw Q a w hs hq⟩
 | seq x z ihx ihz =>
   intro hp st K y h;have hx:=zkg hH (q:=0::p) (by simp only[zl,hp,z7m]) (ihx (0::p) (by simp only[zl,hp,z7m]));have hz:=zkg hH (q:=1::p) (by simp only[zl,hp,z7m]) (ihz (1::p) (by simp only[zl,hp,z7m]));simp only[evN] at h;obtain⟨e,st1,hK,hw⟩:=hx st _ y h;cases e with
   | normal =>
     obtain⟨e2,st2,hK2,hw2⟩:=hz st1 K y hK;exact⟨e2,st2,hK2,fun Q a w hs hq=>wp_seq (hw _ a w hs fun a' w' hs'=>hw2 Q a' w' hs' hq)⟩
   | exit id=>exact⟨.exit id,st1,hK,fun Q a w hs hq=>wp_seq (hw _ a w hs fun a' w' hs'=>hq a' w' hs')⟩
   | ret=>exact⟨.ret,st1,hK,fun Q a w hs hq=>wp_seq (hw _ a w hs fun a' w' hs'=>hq a' w' hs')⟩
 | cond x t e iht ihe =>
   intro hp st K y h;have ht:=zkg hH (q:=0::p) (by simp only[zl,hp,z7m]) (iht (0::p) (by simp only[zl,hp,z7m]));have he:=zkg hH (q:=1::p) (by simp only[zl,hp,z7m]) (ihe (1::p) (by simp only[zl,hp,z7m]));simp only[evN] at h;obtain⟨v,st1,fp1,h1,h2⟩:=z1t h;split at h2
   . rename_i b;have hev:∀ a w,Sim c st a w->a.eval x=.bool b:=by
      rintro a w ⟨S,ob,hs⟩;obtain⟨A,fp',h3,hA,_⟩:=zw h1 hs (hb.globS hs);have:=z3e h3;simp only[Prod.mk.injEq] at this;rw[<- this.1] at hA;exact hA.1.bool_inv
     cases b with
     | true =>
       simp only[cond] at h2;obtain⟨ex,st2,hK,hw⟩:=ht st _ y h2;cases ex with
       | normal=>exact⟨.normal,_,hK,fun Q a w hs hq=>wp_cond_true (hev a w hs) (hw Q a w hs fun a' w' hs'=>hq a' w' (hs'.rs _ _))⟩
       | exit id=>exact⟨.exit id,_,hK,fun Q a w hs hq=>wp_cond_true (hev a w hs) (hw Q a w hs hq)⟩
       | ret=>exact⟨.ret,_,hK,fun Q a w hs hq=>wp_cond_true (hev a w hs) (hw Q a w hs hq)⟩
     | false =>
       simp only[cond] at h2;obtain⟨ex,st2,hK,hw⟩:=he st _ y h2;cases ex with
       | normal=>exact⟨.normal,_,hK,fun Q a w hs hq=>wp_cond_false (hev a w hs) (hw Q a w hs fun a' w' hs'=>hq a' w' (hs'.rs _ _))⟩
       | exit id=>exact⟨.exit id,_,hK,fun Q a w hs hq=>wp_cond_false (hev a w hs) (hw Q a w hs hq)⟩
       | ret=>exact⟨.ret,_,hK,fun Q a w hs hq=>wp_cond_false (hev a w hs) (hw Q a w hs hq)⟩
   . cases h2
 | block id x ihx =>
   intro hp st K y h;have hx:=zkg hH (q:=0::p) (by simp only[zl,hp,z7m]) (ihx (0::p) (by simp only[zl,hp,z7m]));simp only[evN] at h;obtain⟨e,st1,hK,hw⟩:=hx st _ y h;cases e with
   | normal=>exact⟨.normal,_,hK,fun Q a w hs hq=>wp_block (hw _ a w hs fun a' w' hs'=>hq a' w' (hs'.rs _ _))⟩
   | exit j =>
     dsimp only at hK;split at hK
     . rename_i hj;have hj:=z3x hj;subst hj;refine⟨.normal,_,hK,fun Q a w hs hq=>wp_block (hw _ a w hs fun a' w' hs'=>?_)⟩;simp only[Ex.exit',Exit.inBlock,if_true];exact hq a' w' (hs'.rs _ _)
     . rename_i hj;have hj:j≠id:=fun e=>by subst e;simp[Nat.beq_refl] at hj
       refine⟨.exit j,_,hK,fun Q a w hs hq=>wp_block (hw _ a w hs fun a' w' hs'=>?_)⟩;simp only[Ex.exit',Exit.inBlock,if_neg hj];exact hq a' w' hs'
   | ret=>exact⟨.ret,_,hK,fun Q a w hs hq=>wp_block (hw _ a w hs fun a' w' hs'=>hq a' w' hs')⟩
 | loop x ihx =>
   intro hp st K y h;have hx:=zkg hH (q:=0::p) (by simp only[zl,hp,z7m]) (ihx (0::p) (by simp only[zl,hp,z7m]));simp only[evN] at h;obtain⟨e,st',hK,hw⟩:=zi7 hx _ _ _ K y h;exact⟨e,st',hK,fun Q a w hs hq=>zp0 (hw Q a w (hs.restr _) hq)⟩
 | exit id=>exact fun _ st K y h=>⟨.exit id,_,h,fun Q a w hs hq=>wp_exit (hq a w (hs.rs _ _))⟩
 | scope x ihx =>
   intro hp st K y h;have hx:=zkg hH (q:=0::p) (by simp only[zl,hp,z7m]) (ihx (0::p) (by simp only[zl,hp,z7m]));simp only[evN] at h;obtain⟨e,st1,hK,hw⟩:=hx st K y h;exact⟨e,st1,hK,fun Q a w hs hq=>wp_scope_straight (hw _ a w hs fun a' w' hs'=>by cases e<;>exact hq a' w' hs')⟩
 | label l=>exact fun _ st K y h=>⟨.normal,_,h,fun Q a w hs hq=>wp_label (hq a w hs)⟩
 | ret=>exact fun _ st K y h=>⟨.ret,_,h,fun Q a w hs hq=>wp_ret (hq a w (hs.rs _ _))⟩
 | rangeFunc g ps assign body=>exact fun _ st K y h=>z11z hb N _ g ps assign body st K y h
 | _=>intro _ st K y h;simp[evN] at h
theorem z1h {β:Type}{k:Code}{f:Hd β}{s:List (Nat×AS)}{m:Nat}{g:z1k s->(Ex->List A->Option β)->Option β}(live:List Nat)(hf:z10 P c k f)(h:∀ x K,f (mkS s m x) K=g x K) :
 z10 P c k (fun st K=>(unS s m (restr live 0 st)).bind fun x=>g x K):=by
 intro st K y hy;cases hu:unS s m (restr live 0 st) with
 | none=>simp only[hu] at hy;cases hy
 | some x =>
   simp only[hu,Option.bind_some] at hy;rw[<- h,<- zda hu] at hy;obtain⟨e,st',hK,hw⟩:=hf _ K y hy;exact⟨e,st',hK,fun Q a w hs hq=>hw Q a w (hs.restr live) hq⟩
def iter {σ β:Type}(step:σ->(σ->Option β)->Option β):Nat->σ->Option β
 | 0,_=>none
 | n+1,x=>step x (iter step n)
def brk {β:Type}(live:List Nat)(rec:List A->Option β)(K:Ex->List A->Option β):Ex->List A->Option β:=fun e st=>match e with
 | .normal=>rec (restr live 0 st)
 | e=>K e st
theorem zi8 {β ι σ:Type}{live:List Nat}{f:Hd β}{mk:ι->σ->List A}{g:ι->σ->(σ->Option β)->(Ex->List A->Option β)->Option β}(h:∀ i v rec K,f (mk i v) (brk live rec K)=g i v (fun v'=>rec (mk i v')) K)
 (K:Ex->List A->Option β) (i:ι):∀ (n:Nat) (v:σ),zc5 live f n (mk i v) K=iter (fun v r=>g i v r K) n v
 | 0,v=>rfl
 | n+1,v=>by
   have:=h i v (fun st=>zc5 live f n st K) K;simp only[zc5,iter];refine Eq.trans this ?_;congr 1
   funext v'
   exact zi8 h K i n v'
theorem z2t {β ι σ:Type}{k:Code}{f:Hd β}{s:List (Nat×AS)}{m:Nat}(g:ι->σ->(σ->Option β)->(Ex->List A->Option β)->Option β)(live:List Nat)(N:Nat)(pi:z1k s->ι)(pv:z1k s->σ)(mk:ι->σ->z1k s)(hmk:∀ x,mk (pi x) (pv x)=x)(hf:z10 P c k f)
 (h:∀ i v rec K,f (mkS s m (mk i v)) (brk live rec K)=g i v (fun v'=>rec (mkS s m (mk i v'))) K) :
 z10 P c (.loop k) (fun st K=>(unS s m (restr live 0 st)).bind fun x=>iter (fun v r=>g (pi x) v r K) N (pv x)):=by
 intro st K y hy;cases hu:unS s m (restr live 0 st) with
 | none=>simp only[hu] at hy;cases hy
 | some x =>
   simp only[hu,Option.bind_some] at hy;rw[<- zi8 (mk:=fun i v=>mkS s m (mk i v)) (live:=live) (f:=f) h,hmk] at hy;obtain⟨e,st',hK,hw⟩:=zi7 hf live N _ K y hy;refine⟨e,st',hK,fun Q a w hs hq=>zp0 (hw Q a w ?_ hq)⟩;rw[<- zda hu];exact hs.restr live
def zbe {α σ β:Type}(step:α->σ->(σ->Option β)->Option β)(fin:σ->Option β):List α->σ->Option β
 | [],v=>fin v
 | y::ys,v=>step y v (zbe step fin ys)
def brkR {β:Type}(rec:List A->Option β)(K:Ex->List A->Option β):Ex->List A->Option β:=fun e st=>match e with
 | .normal=>rec st
 | e=>K e st
theorem zv3 {β ι σ:Type}{ts:List T}{f:z3l ts->Hd β}{mk:ι->σ->List A}{g:z3l ts->ι->σ->(σ->Option β)->(Ex->List A->Option β)->Option β}
 (h:∀ y i v rec K,f y (mk i v) (brkR rec K)=g y i v (fun v'=>rec (mk i v')) K) (K:Ex->List A->Option β) (i:ι):∀ (xs:List (z3l ts)) (v:σ),
 rfC f xs (mk i v) K=zbe (fun y v r=>g y i v r K) (fun v=>K .normal (mk i v)) xs v
 | [],v=>rfl
 | y::ys,v=>by
   have:=h y i v (fun st=>rfC f ys st K) K;simp only[rfC,zbe];refine Eq.trans this ?_;congr 1
   funext v'
   exact zv3 h K i ys v'
def rfF {β:Type}(E:Env)(N:Nat)(ts:List T)(k:Code):z3l ts->Hd β:=match k with
 | .rangeFunc _ ps assign body=>fun y=>rndC E N ps.toList assign body (mkL ts y)
 | _=>fun _ _ _=>none
theorem z120 {β ι σ:Type}{ts:List T}{s s2:List (Nat×AS)}{m m2:Nat}{k:Code}{F:Hd β}(liveP:List Nat)(Fit:z1k s->Option (List (z3l ts)))(pi:z1k s->ι)(pv:z1k s->σ)(mk:ι->σ->z1k s2)
 (f:z3l ts->Hd β) (g:z3l ts->ι->σ->(σ->Option β)->(Ex->List A->Option β)->Option β) (hf:z10 P c k F)
 (h0:∀ x K,F (mkS s m x) K=(Fit x).bind fun xs=>rfC f xs (mkS s2 m2 (mk (pi x) (pv x))) K)
 (h:∀ y i v rec K,f y (mkS s2 m2 (mk i v)) (brkR rec K)=g y i v (fun v'=>rec (mkS s2 m2 (mk i v'))) K) :
 z10 P c k (fun st K=>(unS s m (restr liveP 0 st)).bind fun x=>(Fit x).bind fun xs=>zbe (fun y v r=>g y (pi x) v r K) (fun v=>K .normal (mkS s2 m2 (mk (pi x) v))) xs (pv x)):=by
 intro st K y hy;cases hu:unS s m (restr liveP 0 st) with
 | none=>simp only[hu] at hy;cases hy
 | some x =>
   simp only[hu,Option.bind_some] at hy;cases hF:Fit x with
   | none=>rw[hF] at hy;cases hy
   | some xs =>
     rw[hF] at hy;simp only[Option.bind_some] at hy;rw[<- zv3 (mk:=fun i v=>mkS s2 m2 (mk i v)) h] at hy;have h1:=h0 x K;rw[hF,Option.bind_some] at h1;rw[<- h1,<- zda hu] at hy;obtain⟨e,st',hK,hw⟩:=hf _ K y hy;exact⟨e,st',hK,fun Q a w hs hq=>hw Q a w (hs.restr liveP) hq⟩
def z3v {β:Type} (E:Env) (N:Nat) (H:Tab β) (L:List (List Nat×List Nat)) (fn:Func) (args:List A) (K:A->List A->Option β):Option β :=
 match fn.body with
 | none=>none
 | some body=>match z1i (z1i (zmm E.lent 0 args) (zvh args.length E.lent)) (Nat.ble args.length fn.ntmps) with
   | true=>evN E N H L [] body (args.append (z69 (fn.ntmps - args.length))) fun e st=>match e with
     | .exit _=>none
     | _=>(zgu E fn.results.toList fn.resultTypes.toList fun x=>zlh E args.length 0 fun l=>(.ret (x,l):Cmd (A×List A))).cps E st fp0 fun r _ _=>K r.1 r.2
   | false=>none
theorem zx5 {β:Type}{N:Nat}{H:Tab β}{L:List (List Nat×List Nat)}{f:FuncId}{fn:Func}{body:Code}{args:List A}{K:A->List A->Option β}{y:β}(hE:EnvOk P E)(hf:P.funcs[f]?=some fn)(hbody:fn.body=some body)
 (hH:∀ c,Base P E c->TabOk P c body H) (h:z3v E N H L fn args K=some y)
 (w:World) (S:Hp) (vals:List Value) (ob:Nat->List Nat) (har:ArgsRel (hp w) S args vals ob) (hS:Sub S (hp w)) (hg:GlobOk E.glob S) :
 ∃ r outs,K r outs=some y/\Calls P f vals.toArray w fun e w'=>Ends w S args vals ob r outs e w':=by
 unfold z3v at h;rw[hbody] at h;dsimp only at h;split at h
 case h_2=>cases h
 rename_i hck;obtain⟨hck1,hntmps⟩:=z7 hck;obtain⟨hargs,hlent⟩:=z7 hck1;have hntmps:args.length<=fn.ntmps:=by simpa using hntmps
 have happ:args.append (z69 (fn.ntmps - args.length))=args++z69 (fn.ntmps - args.length):=rfl;rw[happ] at h;have hb:Base P E (zk0 E w S vals ob):=zig hE hg;obtain⟨e,st1,hrun,hwp⟩:=zi hb N H L body (hH _ hb) [] body rfl _ _ _ h;obtain⟨hee,⟨r,outs⟩,st2,fp1,hx,hK⟩:(e=.normal\/e=.ret)/\∃ (q:A×List A) (st2:List A) (fp1:FP),
  zn E (zgu E fn.results.toList fn.resultTypes.toList fun x=>zlh E args.length 0 fun l=>(.ret (x,l):Cmd (A×List A))) st1 fp0=some (q,st2,fp1)/\K q.1 q.2=some y:=by
  cases e with
  | exit id=>cases hrun
  | normal=>obtain⟨q,st2,fp1,h1,h2⟩:=z1t hrun;exact⟨.inl rfl,q,st2,fp1,h1,h2⟩
  | ret=>obtain⟨q,st2,fp1,h1,h2⟩:=z1t hrun;exact⟨.inr rfl,q,st2,fp1,h1,h2⟩
 exact⟨r,outs,hK,z18e hE hf hbody hargs hntmps har hS hg hwp hee hx⟩
def z14 {β:Type}(ps:List (Nat×AS))(F:z1k ps->Option β)(out:β->A×List A)(args:List A):Res :=
 match unS ps 0 args with
 | some x=>⟨β,F x,out⟩
 | none=>⟨Unit,none,fun _=>(.dead,[])⟩
def znl {β:Type}(ps:List (Nat×AS))(F:z1k ps->Option β)(out:β->A×List A)(other:List A->Res)(args:List A):Res :=
 match unS ps 0 args with
 | some x=>⟨β,F x,out⟩
 | none=>other args
theorem Contract.alt {β:Type}{P:Program}{glob:Nat->Option Dat}{f:FuncId}{ps:List (Nat×AS)}{F:z1k ps->Option β}{out:β->A×List A}{other:List A->Res}(h1:Contract P glob f (z14 ps F out))(h2:Contract P glob f other) :
 Contract P glob f (znl ps F out other):=by
 refine⟨h1.1,?_⟩;intro w S args vals ob har hS hg;have k1:=h1.2 w S args vals ob har hS hg;have k2:=h2.2 w S args vals ob har hS hg;have e:znl ps F out other args=(match unS ps 0 args with|some x=>⟨β,F x,out⟩|none=>other args):=rfl;have e1:z14 ps F out args=(match unS ps 0 args with|some x=>⟨β,F x,out⟩|none=>⟨Unit,none,fun _=>(.dead,[])⟩):=rfl;cases hu:unS ps 0 args with
 | none=>rw[hu] at e;rw[e];exact k2
 | some x=>rw[hu] at e e1;rw[e1] at k1;rw[e];exact k1
theorem Contract.hand {β : Type} {P : Program} {glob : Nat -> Option Dat} {f : FuncId} {ps : List (Nat × AS)} {F : z1k ps -> Option β} {out : β -> A × List A} (hf : ∃ fn, P.funcs[f]? = some fn /\ fn.body.isSome = true /\ fn.name ≠ "runtime.NumGoroutine")
 (h:∀ (w:World) (S:Hp) (vals:List Value) (ob:Nat->List Nat) (x:z1k ps) (y:β),ArgsRel (hp w) S (mkS ps 0 x) vals ob->Sub S (hp w)->GlobOk glob S->F x=some y->Calls P f vals.toArray w fun e w'=>Ends w S (mkS ps 0 x) vals ob (out y).1 (out y).2 e w') :
 Contract P glob f (z14 ps F out):=by
 refine⟨hf,?_⟩;intro w S args vals ob har hS hg;unfold z14;cases hu:unS ps 0 args with
 | none=>intro y hy;cases hy
 | some x =>
   dsimp only;intro y hy;rw[zda hu] at har ⊢;exact h w S vals ob x y har hS hg hy
theorem Contract.zero {β:Type}{P:Program}{glob:Nat->Option Dat}{f:FuncId}{fn:Func}{body:Code}{ps:List (Nat×AS)}{F:z1k ps->Option β}{out:β->A×List A}
 (hf : P.funcs[f]? = some fn) (hbody : fn.body = some body) (hname : fn.name ≠ "runtime.NumGoroutine") (hF : ∀ x, F x = none) : Contract P glob f (z14 ps F out) := by
 refine⟨⟨fn,hf,by rw[hbody];rfl,hname⟩,?_⟩;intro w S args vals ob har hS hg;unfold z14;cases unS ps 0 args with
 | none=>intro y hy;cases hy
 | some x=>intro y hy;dsimp only at hy;rw[hF] at hy;cases hy
theorem Contract.of {β:Type}{P:Program}{E:Env}{f:FuncId}{fn:Func}{body:Code}{H:Tab β}{L:List (List Nat×List Nat)}{N:Nat}{ps:List (Nat×AS)}{F:z1k ps->Option β}{out:β->A×List A}{K:A->List A->Option β}
 (hE : EnvOk P E) (hf : P.funcs[f]? = some fn) (hbody : fn.body = some body) (hname : fn.name ≠ "runtime.NumGoroutine")
 (hH:∀ c,Base P E c->TabOk P c body H) (hF:∀ x y,F x=some y->z3v E N H L fn (mkS ps 0 x) K=some y) (hK:∀ r outs y,K r outs=some y->(r,outs)=out y) :
 Contract P E.glob f (z14 ps F out):=by
 refine⟨⟨fn,hf,by rw[hbody];rfl,hname⟩,?_⟩;intro w S args vals ob har hS hg;unfold z14;cases hu:unS ps 0 args with
 | none=>intro y hy;cases hy
 | some x =>
   dsimp only;intro y hy;have:=hF x y hy;rw[<- zda hu] at this;obtain⟨r,outs,hr,hc⟩:=zx5 hE hf hbody hH this w S vals ob har hS hg;have hro:=hK r outs y hr;have e1:r=(out y).1:=by rw[<- hro]
   have e2:outs=(out y).2:=by rw[<- hro]
   rw[<- e1,<- e2];exact hc
def ContractD (P:Program)(glob:Nat->Option Dat)(f:FuncId)(g:List A->Res):Prop :=
 ∀ (w:World) (S:Hp) (args:List A) (vals:List Value) (ob:Nat->List Nat),ArgsRel (hp w) S args vals ob->Sub S (hp w)->GlobOk glob S →
 ∀ y,(g args).val=some y->CallsD P f vals.toArray .returning w fun e u' w'=>u'=.returning/\Ends w S args vals ob ((g args).out y).1 ((g args).out y).2 e w'
theorem zth {β:Type}{N:Nat}{H:Tab β}{L:List (List Nat×List Nat)}{f:FuncId}{fn:Func}{body:Code}{args:List A}{K:A->List A->Option β}{y:β}(hE:EnvOk P E)(hf:P.funcs[f]?=some fn)(hbody:fn.body=some body)
 (hH:∀ c,Base P E c->TabOk P c body H) (h:z3v E N H L fn args K=some y)
 (w:World) (S:Hp) (vals:List Value) (ob:Nat->List Nat) (har:ArgsRel (hp w) S args vals ob) (hS:Sub S (hp w)) (hg:GlobOk E.glob S) :
 ∃ r outs,K r outs=some y/\CallsD P f vals.toArray .returning w fun e u' w'=>u'=.returning/\Ends w S args vals ob r outs e w':=by
 unfold z3v at h;rw[hbody] at h;dsimp only at h;split at h
 case h_2=>cases h
 rename_i hck;obtain⟨hck1,hntmps⟩:=z7 hck;obtain⟨hargs,hlent⟩:=z7 hck1;have hntmps:args.length<=fn.ntmps:=by simpa using hntmps
 have happ:args.append (z69 (fn.ntmps - args.length))=args++z69 (fn.ntmps - args.length):=rfl;rw[happ] at h;have hb:Base P E (zk0 E w S vals ob):=zig hE hg;obtain⟨e,st1,hrun,hwp⟩:=zi hb N H L body (hH _ hb) [] body rfl _ _ _ h;obtain⟨hee,⟨r,outs⟩,st2,fp1,hx,hK⟩:(e=.normal\/e=.ret)/\∃ (q:A×List A) (st2:List A) (fp1:FP),
  zn E (zgu E fn.results.toList fn.resultTypes.toList fun x=>zlh E args.length 0 fun l=>(.ret (x,l):Cmd (A×List A))) st1 fp0=some (q,st2,fp1)/\K q.1 q.2=some y:=by
  cases e with
  | exit id=>cases hrun
  | normal=>obtain⟨q,st2,fp1,h1,h2⟩:=z1t hrun;exact⟨.inl rfl,q,st2,fp1,h1,h2⟩
  | ret=>obtain⟨q,st2,fp1,h1,h2⟩:=z1t hrun;exact⟨.inr rfl,q,st2,fp1,h1,h2⟩
 exact⟨r,outs,hK,z12v hE hf hbody hargs hntmps har hS hg hwp hee hx⟩
theorem ContractD.of {β:Type}{P:Program}{E:Env}{f:FuncId}{fn:Func}{body:Code}{H:Tab β}{L:List (List Nat×List Nat)}{N:Nat}{ps:List (Nat×AS)}{F:z1k ps->Option β}{out:β->A×List A}{K:A->List A->Option β}
 (hE : EnvOk P E) (hf : P.funcs[f]? = some fn) (hbody : fn.body = some body) (hname : fn.name ≠ "runtime.NumGoroutine")
 (hH:∀ c,Base P E c->TabOk P c body H) (hF:∀ x y,F x=some y->z3v E N H L fn (mkS ps 0 x) K=some y) (hK:∀ r outs y,K r outs=some y->(r,outs)=out y) :
 ContractD P E.glob f (z14 ps F out):=by
 intro w S args vals ob har hS hg;unfold z14;cases hu:unS ps 0 args with
 | none=>intro y hy;cases hy
 | some x =>
   dsimp only;intro y hy;have:=hF x y hy;rw[<- zda hu] at this;obtain⟨r,outs,hr,hc⟩:=zth hE hf hbody hH this w S vals ob har hS hg;have hro:=hK r outs y hr;have e1:r=(out y).1:=by rw[<- hro]
   have e2:outs=(out y).2:=by rw[<- hro]
   rw[<- e1,<- e2];exact hc
end
end
end Go.Lift
