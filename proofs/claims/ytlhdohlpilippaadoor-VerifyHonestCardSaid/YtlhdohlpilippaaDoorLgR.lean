import Derived.Test.YtlhdohlpilippaaDoorLgQ
set_option linter.all false
namespace Go.Lift
noncomputable section
inductive Ex where
 | normal|exit (id:Nat)|ret
def zix (live:List Nat) (i:Nat) (x:A):A:=match x with
 | .bor _=>.dead
 | .adr ..=>.dead
 | .cel ..=>.dead
 | .clo f rs=>(match z1i (live.contains i) (rs.all live.contains) with
   | true=>.clo f rs
   | false=>.dead)
 | .pel ..=>.dead
 | .psl ..=>.dead
 | .dead=>.dead
 | x=>match live.contains i with
   | true=>x
   | false=>.dead
def restr (live:List Nat):Nat->List A->List A
 | _,[]=>[]
 | i,x::l=>zix live i x::restr live (i+1) l
def zc5 {β:Type} (live:List Nat) (f:List A->(Ex->List A->Option β)->Option β):Nat->List A->(Ex->List A->Option β)->Option β
 | 0,_,_=>none
 | n+1,st,K=>f st fun e st'=>match e with
   | .normal=>zc5 live f n (restr live 0 st') K
   | e=>K e st'
def evC {β:Type} (E:Env) (N:Nat):Code->List A->(Ex->List A->Option β)->Option β
 | .skip,st,K=>K .normal st
 | .region _ ops draw,st,K=>match draw with
   | false=>z11v E ops ops.toList st fun st=>K .normal st
   | true=>zik E ops ops.toList [] st fun st=>K .normal st
 | .seq a b,st,K=>evC E N a st fun e st=>match e with
   | .normal=>evC E N b st K
   | e=>K e st
 | .cond x a b,st,K=>(rdK E x fun v=>(.ret v:Cmd A)).cps E st fp0 fun v _ _=>match v with
   | .v .bool t=>cond t (evC E N a st fun e st=>K e (restr E.live 0 st)) (evC E N b st fun e st=>K e (restr E.live 0 st))
   | _=>none
 | .block id a,st,K=>evC E N a st fun e st=>match e with
   | .normal=>K .normal (restr E.live 0 st)
   | .exit j=>(match Nat.beq j id with
     | true=>K .normal (restr E.live 0 st)
     | false=>K (.exit j) st)
   | .ret=>K .ret st
 | .loop a,st,K=>zc5 E.live (evC E N a) N (restr E.live 0 st) K
 | .exit id,st,K=>K (.exit id) st
 | .ret,st,K=>K .ret st
 | _,_,_=>none
def zot {α:Type} (E:Env) (r:ResultVar) (rt:TypeId) (k:Dat->Cmd α):Cmd α :=
 match r with
 | .tmp t=>tyK E rt fun e=>rdK E (.tmp t) fun a=>asK e.t a fun z=>k ⟨e.t,z⟩
 | .cell ad ty=>tyK E ty fun e=>.get ad fun c=>match c with
   | .box t x=>(match teq t e.t with
     | true=>k ⟨t,x⟩
     | false=>.fail)
   | _=>.fail
def z125 {α:Type}(E:Env):List ResultVar->List TypeId->(List Dat->Cmd α)->Cmd α
 | [],_,k=>k []
 | r::rs,rt::rts,k=>zot E r rt fun d=>z125 E rs rts fun l=>k (d::l)
 | _,_,_=>.fail
def z13u {α:Type} (E:Env) (r:ResultVar) (rt:TypeId) (k:A->Cmd α):Cmd α :=
 match r with
 | .tmp t=>.get t fun a=>match a with
   | .row u xs=>(match E.ownRes with
     | true=>(match E.lent.contains t with
       | true=>.fail
       | false=>k (.row u xs))
     | false=>zot E (.tmp t) rt fun d=>k (.v d.1 d.2))
   | .box u x=>(match E.lent.contains t with
     | true=>.fail
     | false=>k (.box u x))
   | .clo f rs=>zx7 (.clo f rs) fun d=>k (.v d.1 d.2)
   | .v (.fn f u) x=>k (.v (.fn f u) x)
   | _=>zot E (.tmp t) rt fun d=>k (.v d.1 d.2)
 | r=>zot E r rt fun d=>k (.v d.1 d.2)
def z12c (c:A) (u:T):Option u.den:=match c with
 | .ov t x=>cast t u x
 | .row t xs=>(match u with
   | .own w=>cast (.sl t) (.sl w) xs
   | _=>none)
 | .box t x=>(match u with
   | .nb w=>(match cast t w x with
     | some x=>some (some x)
     | none=>none)
   | _=>none)
 | .nilsl=>(match u with
   | .own _=>some []
   | _=>none)
 | .v .opq v=>(match u,v with
   | .mp _ _,.map none=>some none
   | .nb _,.pointer none=>some none
   | _,_=>none)
 | _=>none
def zym {α:Type} (E:Env):List ResultVar->List TypeId->List T->(List (ResultVar×T×Option Dat)->Cmd α)->Cmd α
 | [],_,[],k=>k []
 | rv::rs,rt::rts,u::us,k=>(match noOwn u with
   | true=>zot E rv rt fun d=>zym E rs rts us fun l=>k ((rv,u,some d)::l)
   | false=>zym E rs rts us fun l=>k ((rv,u,none)::l))
 | _,_,_,_=>.fail
def zqm {α:Type} (E:Env):List (ResultVar×T×Option Dat)->List Nat->(List Dat->Cmd α)->Cmd α
 | [],_,k=>k []
 | (rv,u, y)::r,used,k=>match y with
   | some d=>zqm E r used fun l=>k (d::l)
   | none=>match rv with
     | .tmp t=>(match E.lent.contains t || used.contains t with
       | true=>.fail
       | false=>.get t fun c=>(match z12c c u with
         | some z=>zqm E r (t::used) fun l=>k (⟨u,z⟩::l)
         | none=>.fail))
     | .cell t ty=>(match E.lent.contains t || used.contains t with
       | true=>.fail
       | false=>tyK E ty fun e=>.get t fun c=>(match c with
         | .box t' x=>(match z1i (zs7 u e.t) (z1i u.isAgg (z7y u)),cast t' u x with
           | true,some z=>zqm E r (t::used) fun l=>k (⟨u,z⟩::l)
           | _,_=>.fail)
         | _=>.fail))
def zgu {α:Type} (E:Env) (rs:List ResultVar) (rts:List TypeId) (k:A->Cmd α):Cmd α :=
 match E.res with
 | []=>(match rs with
   | [r]=>(match rts with
     | [rt]=>z13u E r rt k
     | _=>.fail)
   | rs=>z125 E rs rts fun l=>k (.tup l))
 | us=>zym E rs rts us fun l1=>zqm E l1 [] fun l=>(match l with
   | [d]=>(match ovT d.1 with
     | true=>k (.ov d.1 d.2)
     | false=>.fail)
   | l=>k (.otup l))
def zlh {α:Type} (E:Env):Nat->Nat->(List A->Cmd α)->Cmd α
 | 0,_,k=>k []
 | n + 1,i,k=>match E.lent.contains i with
   | true=>.get i fun c=>(match c with
     | .box t x=>zlh E n (i+1) fun l=>k (.box t x::l)
     | _=>.fail)
   | false=>zlh E n (i+1) fun l=>k (.dead::l)
def z13d (lent:List Nat)(i:Nat)(x:A):Bool:=match x with
 | .v ..=>!(lent.contains i)
 | .nilsl=>!(lent.contains i)
 | .box ..=>lent.contains i
 | _=>false
def zmm (lent:List Nat):Nat->List A->Bool
 | _,[]=>true
 | i,x::l=>z1i (z13d lent i x) (zmm lent (i+1) l)
def zvh (n:Nat):List Nat->Bool
 | []=>true
 | i::l=>z1i (Nat.blt i n) (zvh n l)
def z69:Nat->List A
 | 0=>[]
 | n+1=>.tup []::z69 n
def evF {β:Type} (E:Env) (N:Nat) (fn:Func) (args:List A) (K:A->List A->Option β):Option β :=
 match fn.body with
 | none=>none
 | some body=>match z1i (z1i (zmm E.lent 0 args) (zvh args.length E.lent)) (Nat.ble args.length fn.ntmps) with
   | true=>evC E N body (args.append (z69 (fn.ntmps - args.length))) fun e st=>match e with
     | .exit _=>none
     | _=>(zgu E fn.results.toList fn.resultTypes.toList fun x=>zlh E args.length 0 fun l=>(.ret (x,l):Cmd (A×List A))).cps E st fp0 fun r _ _=>K r.1 r.2
   | false=>none
section
variable {P:Program} {E:Env} {c:Ctx} {st st':List A} {fp fp':FP} {a:Act} {w w':World} {S:Hp} {ob:Nat->List Nat}
theorem zdk (live:List Nat):∀ (i:Nat) (st:List A),(restr live i st).length=st.length
 | _,[]=>rfl
 | i,x::l=>by simp[restr,zdk live (i+1) l]
theorem zk5 (live:List Nat):∀ (i:Nat) (st:List A) (j:Nat),(restr live i st)[j]?=st[j]?.map (zix live (i+j))
 | _,[],j=>by simp[restr]
 | i,x::l,0=>by simp[restr]
 | i,x::l,j+1=>by
   simp only[restr,List.getElem?_cons_succ];rw[zk5 live (i+1) l j];congr 2;omega
theorem ziw (live:List Nat)(i:Nat)(x:A):zix live i x=.dead\/(zix live i x=x/\(∀ r∈x.refs,live.contains r=true)/\x.cell=none):=by
 cases x
 case clo f rs =>
  simp only[zix];split
  . rename_i h;exact .inr ⟨rfl,fun r hr=>List.all_eq_true.1 (z7 h).2 r hr,rfl⟩
  . exact .inl rfl
 all_goals first
  | exact .inl rfl
  | (simp only[zix];split<;>first|exact .inl rfl|exact .inr ⟨rfl,(fun r hr=>by cases hr),rfl⟩)
theorem zwh {live:List Nat}{i:Nat}{x:A}(h:live.contains i=true)(ho:x.own=true):zix live i x=x:=by
 cases x<;>simp[A.own] at ho<;>simp only[zix,h]
theorem SimD.restr (h:SimD c st a w S ob) (live:List Nat):∃ ob',SimD c (restr live 0 st) a w S ob':=by
 refine⟨fun i=>match (Lift.restr live 0 st)[i]? with|some .dead=>[]|_=>ob i,?_⟩;have hsub:∀ {i b:Nat},b∈(fun i=>match (Lift.restr live 0 st)[i]? with|some A.dead=>[]|_=>ob i) i->b∈ob i:=by
  intro i b hi;dsimp only at hi;split at hi
  . cases hi
  . exact hi
 refine⟨h.defers.turn fun D h1 h2 h3 h4=>⟨h1,h2,fun i hi=>h3 i (hsub hi)⟩,by rw[zdk];exact h.size,?_,?_,?_,?_,?_,?_,h.sub,h.mono,?_,h.newS,h.lent,h.frame⟩
 . intro i x hx;have hx':=hx;rw[zk5] at hx;cases hz:st[i]? with
   | none=>rw[hz] at hx;cases hx
   | some z =>
     rw[hz] at hx;simp only[Option.map_some,Option.some.injEq] at hx;rw[hx'];rcases ziw live (0+i) z with e|⟨e,_⟩
     . rw[e] at hx;subst hx;rfl
     . rw[e] at hx;subst hx;have:=h.rel i z hz;cases z<;>first
        | exact this
        | rfl
 . intro i x r hx hr;rw[zk5] at hx;cases hz:st[i]? with
   | none=>rw[hz] at hx;cases hx
   | some z =>
     rw[hz] at hx;simp only[Option.map_some,Option.some.injEq] at hx;rcases ziw live (0+i) z with e|⟨e,hn,_⟩
     . rw[e] at hx;subst hx;cases hr
     . rw[e] at hx;subst hx;obtain⟨y,hy,hyo⟩:=h.refs i z r hz hr;refine⟨y,?_,hyo⟩;rw[zk5,hy,Option.map_some,Nat.zero_add,zwh (hn r hr) hyo]
 . intro i hi;rw[zdk] at hi;split
   . rfl
   . exact h.out i hi
 . intro i j b hi hj;exact h.inj i j b (hsub hi) (hsub hj)
 . intro i;split
   . exact .nil
   . exact h.nd i
 . intro i b hi;exact h.hid i b (hsub hi)
 . intro i b hi;exact h.fresh i b (hsub hi)
theorem Sim.restr (h:Sim c st a w)(live:List Nat):Sim c (restr live 0 st) a w:=by
 obtain⟨S,ob,h⟩:=h;obtain⟨ob',h'⟩:=h.restr live;exact⟨S,ob',h'⟩
def Inl (P:Program)(k:Code)(Q:Exit->Act->World->Prop)(a:Act)(w:World):Prop :=
 ∀ (b:Frame) (ks:List Item) (cs:List Frame),∃ e a' w',Q e a' w'/\Arrives P (lone (b.at a (.inLoop k::ks)) cs w) b ks cs e a' w'
theorem znw {k:Code}{Q:Exit->Act->World->Prop}(h:k.wp P (Exit.then (Inl P k Q) Q) a w)(b:Frame)(ks:List Item)(cs:List Frame) :
 ∃ e a' w',Q e a' w'/\Arrives P (lone (b.at a (.code k :: .inLoop k::ks)) cs w) b ks cs e a' w':=by
 obtain⟨e,a₁,w₁,hq,harr⟩:=h b (.inLoop k::ks) cs;cases e with
 | normal =>
   obtain⟨e₂,a₂,w₂,hq₂,harr₂⟩:=hq b ks cs;exact⟨e₂,a₂,w₂,hq₂,.of_steps harr harr₂⟩
 | exit id=>exact⟨_,a₁,w₁,hq,.pass (x:=.inLoop k) rfl (fun _ _=>.inl (by simp)) harr⟩
 | goto l=>exact⟨_,a₁,w₁,hq,.pass (x:=.inLoop k) rfl (fun _ _=>.inl (by simp)) harr⟩
 | ret=>exact⟨_,a₁,w₁,hq,.pass (x:=.inLoop k) rfl (fun _ _=>.inl (by simp)) harr⟩
 | panic ch=>exact⟨_,a₁,w₁,hq,.pass (x:=.inLoop k) rfl (fun _ _=>.inl (by simp)) harr⟩
 | outgrown=>exact⟨_,a₁,w₁,hq,.pass (x:=.inLoop k) rfl (fun _ _=>.inl (by simp)) harr⟩
theorem zp0 {k:Code}{Q:Exit->Act->World->Prop}(h:k.wp P (Exit.then (Inl P k Q) Q) a w):(Code.loop k).wp P Q a w:=by
 intro b ks cs;obtain⟨e,a',w',hq,harr⟩:=znw h b ks cs;exact⟨e,a',w',hq,.of_steps (.one step_loop) harr⟩
theorem zvg {k:Code}{Q:Exit->Act->World->Prop}(h:k.wp P (Exit.then (Inl P k Q) Q) a w):Inl P k Q a w:=by
 intro b ks cs;obtain⟨e,a',w',hq,harr⟩:=znw h b ks cs;exact⟨e,a',w',hq,.of_steps (.one step_inLoop) harr⟩
def Ex.exit':Ex->Exit
 | .normal=>.normal
 | .exit id=>.exit id
 | .ret=>.ret
def z10 {β:Type}(P:Program)(c:Ctx)(k:Code)(f:List A->(Ex->List A->Option β)->Option β):Prop :=
 ∀ (st:List A) (K:Ex->List A->Option β) (y:β),f st K=some y->∃ e st',K e st'=some y ∧
 ∀ (Q:Exit->Act->World->Prop) (a:Act) (w:World),Sim c st a w->(∀ a' w',Sim c st' a' w'->Q e.exit' a' w')->k.wp P Q a w
theorem zi7 {β:Type}{k:Code}{f:List A->(Ex->List A->Option β)->Option β}(hk:z10 P c k f)(live:List Nat):∀ (n:Nat) (st:List A) (K:Ex->List A->Option β) (y:β),zc5 live f n st K=some y →
 ∃ e st',K e st'=some y/\∀ (Q:Exit->Act->World->Prop) (a:Act) (w:World),Sim c st a w->(∀ a' w',Sim c st' a' w'->Q e.exit' a' w')->k.wp P (Exit.then (Inl P k Q) Q) a w
 | 0,st,K,y,h=>by simp[zc5] at h
 | n + 1,st,K,y,h=>by
   simp only[zc5] at h;obtain⟨e,st1,hK,hw⟩:=hk st _ y h;cases e with
   | normal =>
     obtain⟨e2,st2,hK2,hw2⟩:=zi7 hk live n _ K y hK;refine⟨e2,st2,hK2,fun Q a w hs hq=>hw _ a w hs fun a' w' hs'=>?_⟩;exact zvg (hw2 Q a' w' (hs'.restr live) hq)
   | exit id=>exact⟨.exit id,st1,hK,fun Q a w hs hq=>hw _ a w hs fun a' w' hs'=>hq a' w' hs'⟩
   | ret=>exact⟨.ret,st1,hK,fun Q a w hs hq=>hw _ a w hs fun a' w' hs'=>hq a' w' hs'⟩
def CodeOkR {β:Type}(P:Program)(c:Ctx)(k:Code)(f:List A->(Ex->List A->Option β)->Option β):Prop :=
 ∀ (st:List A) (K:Ex->List A->Option β) (y:β),f st K=some y->∃ e st',K e st'=some y ∧
 ∀ (ρ:Option Nat) (Q:Exit->Act->World->Prop) (a:Act) (w:World),Sim c st a w->(∀ a' w',Sim c st' a' w'->Q e.exit' a' w')->k.wpIn (FR ρ) 0 P Q a w
theorem CodeOkR.ok {β:Type}{k:Code}{f:List A->(Ex->List A->Option β)->Option β}(h:CodeOkR P c k f):z10 P c k f:=by
 intro st K y hy;obtain⟨e,st',hK,hw⟩:=h st K y hy;exact⟨e,st',hK,fun Q a w hs hq=>(wpIn_wide (n:=0)).1 (hw none Q a w hs hq)⟩
theorem zlp {β:Type}{k:Code}{f:List A->(Ex->List A->Option β)->Option β}(hk:CodeOkR P c k f)(live:List Nat):∀ (n:Nat) (st:List A) (K:Ex->List A->Option β) (y:β),zc5 live f n st K=some y →
 ∃ e st',K e st'=some y/\∀ (ρ:Option Nat) (Q:Exit->Act->World->Prop) (a:Act) (w:World),Sim c st a w->(∀ a' w',Sim c st' a' w'->Q e.exit' a' w')->Code.roundsIn (FR ρ) 0 P k Q n a w
 | 0,st,K,y,h=>by simp[zc5] at h
 | n + 1,st,K,y,h=>by
   simp only[zc5] at h;obtain⟨e,st1,hK,hw⟩:=hk st _ y h;cases e with
   | normal =>
     obtain⟨e2,st2,hK2,hw2⟩:=zlp hk live n _ K y hK;exact⟨e2,st2,hK2,fun ρ Q a w hs hq=>hw ρ _ a w hs fun a' w' hs'=>hw2 ρ Q a' w' (hs'.restr live) hq⟩
   | exit id=>exact⟨.exit id,st1,hK,fun ρ Q a w hs hq=>hw ρ _ a w hs fun a' w' hs'=>hq a' w' hs'⟩
   | ret=>exact⟨.ret,st1,hK,fun ρ Q a w hs hq=>hw ρ _ a w hs fun a' w' hs'=>hq a' w' hs'⟩
theorem z6x {β:Type} (hb:Base P E c) (N:Nat):∀ (k:Code),CodeOkR (β:=β) P c k (evC E N k)
 | .skip=>fun st K y h=>⟨.normal,st,h,fun ρ Q a w hs hq=>wpIn_skip (hq a w hs)⟩
 | .region id ops draw=>fun st K y h=>by
   simp only[evC] at h;cases draw with
   | false =>
     obtain⟨fps,st',hr,hK⟩:=zuy _ _ _ h;exact⟨.normal,st',hK,fun ρ Q a w hs hq=>wpIn_region_list (zyf hb hr a w hs hq)⟩
   | true =>
     obtain⟨st',hK,hw⟩:=zo7 (id:=id) hb h;exact⟨.normal,st',hK,fun ρ Q a w hs hq=>hw ρ Q a w hs hq⟩
 | .seq x z=>fun st K y h=>by
   simp only[evC] at h;obtain⟨e,st1,hK,hw⟩:=z6x hb N x st _ y h;cases e with
   | normal =>
     obtain⟨e2,st2,hK2,hw2⟩:=z6x hb N z st1 K y hK;exact⟨e2,st2,hK2,fun ρ Q a w hs hq=>wpIn_seq (hw ρ _ a w hs fun a' w' hs'=>hw2 ρ Q a' w' hs' hq)⟩
   | exit id=>exact⟨.exit id,st1,hK,fun ρ Q a w hs hq=>wpIn_seq (hw ρ _ a w hs fun a' w' hs'=>hq a' w' hs')⟩
   | ret=>exact⟨.ret,st1,hK,fun ρ Q a w hs hq=>wpIn_seq (hw ρ _ a w hs fun a' w' hs'=>hq a' w' hs')⟩
 | .cond x t e=>fun st K y h=>by
   simp only[evC] at h;obtain⟨v,st1,fp1,h1,h2⟩:=z1t h;split at h2
   . rename_i b;have hev:∀ a w,Sim c st a w->a.eval x=.bool b:=by
      rintro a w ⟨S,ob,hs⟩;obtain⟨A,fp',h3,hA,_⟩:=zw h1 hs (hb.globS hs);have:=z3e h3;simp only[Prod.mk.injEq] at this;rw[<- this.1] at hA;exact hA.1.bool_inv
     cases b with
     | true =>
       simp only[cond] at h2;obtain⟨ex,st2,hK,hw⟩:=z6x hb N t st _ y h2;exact⟨ex,_,hK,fun ρ Q a w hs hq=>wpIn_cond_true (hev a w hs) (hw ρ Q a w hs fun a' w' hs'=>hq a' w' (hs'.restr _))⟩
     | false =>
       simp only[cond] at h2;obtain⟨ex,st2,hK,hw⟩:=z6x hb N e st _ y h2;exact⟨ex,_,hK,fun ρ Q a w hs hq=>wpIn_cond_false (hev a w hs) (hw ρ Q a w hs fun a' w' hs'=>hq a' w' (hs'.restr _))⟩
   . cases h2
 | .block id x=>fun st K y h=>by
   simp only[evC] at h;obtain⟨e,st1,hK,hw⟩:=z6x hb N x st _ y h;cases e with
   | normal=>exact⟨.normal,_,hK,fun ρ Q a w hs hq=>wpIn_block (hw ρ _ a w hs fun a' w' hs'=>hq a' w' (hs'.restr _))⟩
   | exit j =>
     dsimp only at hK;split at hK
     . rename_i hj;have hj:=z3x hj;subst hj;refine⟨.normal,_,hK,fun ρ Q a w hs hq=>wpIn_block (hw ρ _ a w hs fun a' w' hs'=>?_)⟩;simp only[Ex.exit',Exit.inBlock,if_true];exact hq a' w' (hs'.restr _)
     . rename_i hj;have hj:j≠id:=fun e=>by subst e;simp[Nat.beq_refl] at hj
       refine⟨.exit j,_,hK,fun ρ Q a w hs hq=>wpIn_block (hw ρ _ a w hs fun a' w' hs'=>?_)⟩;simp only[Ex.exit',Exit.inBlock,if_neg hj];exact hq a' w' hs'
   | ret=>exact⟨.ret,_,hK,fun ρ Q a w hs hq=>wpIn_block (hw ρ _ a w hs fun a' w' hs'=>hq a' w' hs')⟩
 | .loop x=>fun st K y h=>by
   simp only[evC] at h;obtain⟨e,st',hK,hw⟩:=zlp (z6x hb N x) _ _ _ K y h;exact⟨e,st',hK,fun ρ Q a w hs hq=>wpIn_loop_rounds N (hw ρ Q a w (hs.restr _) hq)⟩
 | .exit id=>fun st K y h=>⟨.exit id,st,h,fun ρ Q a w hs hq=>wpIn_exit (hq a w hs)⟩
 | .ret=>fun st K y h=>⟨.ret,st,h,fun ρ Q a w hs hq=>wpIn_ret (hq a w hs)⟩
 | .rangeFunc ..=>fun st K y h=>by simp[evC] at h
 | .scope ..=>fun st K y h=>by simp[evC] at h
 | .label ..=>fun st K y h=>by simp[evC] at h
 | .goto ..=>fun st K y h=>by simp[evC] at h
 | .refuse ..=>fun st K y h=>by simp[evC] at h
end
end
end Go.Lift
