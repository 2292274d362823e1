import Derived.Test.YtlhdohlpilippaaDoorLgT
set_option linter.all false
namespace Go.Lift
noncomputable section
def zpd {α:Type}(y:α)(kT kF:Option (List α)):Option (List α):=kT.bind fun l=>kF.bind fun m=>match m with
 | []=>some (y::l)
 | _=>none
def zxu {α:Type}(E:Env):List Operand->(List Dat->Cmd α)->Cmd α
 | [],k=>k []
 | x::r,k=>rdK E x fun a=>zx7 a fun d=>zxu E r fun l=>k (d::l)
def isYld:A->Bool
 | .yld=>true
 | _=>false
def zt8 (st:List A) (o:Oper):Option (List Operand):=match o.op with
 | .call c=>(match c.callee with
   | .value (.tmp t)=>(match st.getD t .dead with
     | .bor r=>(match z1i (Nat.beq r 0) (isYld (st.getD 0 .dead)) with
       | true=>some c.args.toList
       | false=>none)
     | .yld=>(match Nat.beq t 0 with
       | true=>some c.args.toList
       | false=>none)
     | _=>none)
   | _=>none)
 | _=>none
def z144 {β:Type} (all:Array Oper) (o:Oper) (st:List A) (kOp kSkip:List A->Option β):Option β:=match o.guard with
 | none=>kOp st
 | some (j,want)=>match (all[j]?).bind (·.dst) with
   | none=>none
   | some d=>match st.getD d .dead with
     | .v .bool b=>(match want with
       | true=>cond b (kOp (st.set d (.v .bool true))) (kSkip (st.set d (.v .bool false)))
       | false=>cond b (kSkip (st.set d (.v .bool true))) (kOp (st.set d (.v .bool false))))
     | .tup []=>kSkip st
     | _=>none
def opY (E:Env)(ts:List T)(cb:z3l ts->Option (List (z3l ts))->Option (List (z3l ts))->Option (List (z3l ts)))(all:Array Oper)(o:Oper)(st:List A)(K:List A->Option (List (z3l ts))):Option (List (z3l ts)):=match zt8 st o with
 | none=>(z48 E all o).cps E st fp0 fun _ st' _=>K st'
 | some xs=>z144 all o st (fun st=>(zxu E xs fun l=>(.ret l:Cmd (List Dat))).cps E st fp0 fun l st1 _=>(unL ts l).bind fun y =>
  cb y ((lay o.dst (.v .bool true)).cps E st1 fp0 fun _ st2 _=>K st2) ((lay o.dst (.v .bool false)).cps E st1 fp0 fun _ st2 _=>K st2))
  (fun st=>(zfn o).cps E st fp0 fun _ st' _=>K st')
def seqY (E:Env)(ts:List T)(cb:z3l ts->Option (List (z3l ts))->Option (List (z3l ts))->Option (List (z3l ts)))(all:Array Oper):List Oper->List A->(List A->Option (List (z3l ts)))->Option (List (z3l ts))
 | [],st,K=>K st
 | o::r,st,K=>opY E ts cb all o st fun st'=>seqY E ts cb all r st' K
def evY (E:Env) (ts:List T) (cb:z3l ts->Option (List (z3l ts))->Option (List (z3l ts))->Option (List (z3l ts))) (N:Nat) (H:Tab (List (z3l ts))) (L:List (List Nat×List Nat)) (p:List Nat):Code->Hd (List (z3l ts))
 | .skip,st,K=>K .normal (rs L p st)
 | .region _ ops draw,st,K=>match draw with
   | false=>seqY E ts cb ops ops.toList st fun st=>K .normal (rs L p st)
   | true=>zik E ops ops.toList [] st fun st=>K .normal (rs L p st)
 | .seq a b,st,K=>via (zj8 H (0::p)) (evY E ts cb N H L (0::p) a) st fun e st=>match e with
   | .normal=>via (zj8 H (1::p)) (evY E ts cb N H L (1::p) b) st K
   | e=>K e st
 | .cond x a b,st,K=>(rdK E x fun v=>(.ret v:Cmd A)).cps E st fp0 fun v _ _=>match v with
   | .v .bool t=>cond t (via (zj8 H (0::p)) (evY E ts cb N H L (0::p) a) st (zzt L p K)) (via (zj8 H (1::p)) (evY E ts cb N H L (1::p) b) st (zzt L p K))
   | _=>none
 | .block id a,st,K=>via (zj8 H (0::p)) (evY E ts cb N H L (0::p) a) st fun e st=>match e with
   | .normal=>K .normal (rs L p st)
   | .exit j=>(match Nat.beq j id with
     | true=>K .normal (rs L p st)
     | false=>K (.exit j) st)
   | .ret=>K .ret st
 | .loop a,st,K=>zc5 (zws L p) (via (zj8 H (0::p)) (evY E ts cb N H L (0::p) a)) N (restr (zws L p) 0 st) K
 | .exit id,st,K=>K (.exit id) (rs L p st)
 | .ret,st,K=>K .ret (rs L p st)
 | _,_,_=>none
abbrev GY (ts:List T):=Bool->List (z3l ts)->List A->Act->World->Prop
def YOk {ts:List T}(G:GY ts)(P:Program)(k:Code)(f:Hd (List (z3l ts))):Prop :=
 ∀ (st:List A) (K:Ex->List A->Option (List (z3l ts))) (ys:List (z3l ts)) (b:Bool) (a:Act) (w:World) (Q:Exit->Act->World->Prop),f st K=some ys->G b ys st a w →
 (∀ e st' ys' b' a' w',K e st'=some ys'->G b' ys' st' a' w'->Q e.exit' a' w')->k.wp P Q a w
def TabOkY {ts:List T}(G:GY ts)(P:Program)(body:Code)(H:Tab (List (z3l ts))):Prop:=∀ q h,zj8 H q=some h->YOk G P (zl body q) h
def JJ {ts:List T}(J:List (z3l ts)->(Nat->Prop)->Hp->World->Prop)(Jx:(Nat->Prop)->Hp->World->Prop)(b:Bool)(ys:List (z3l ts))(O:Nat->Prop)(Sh:Hp)(w:World):Prop :=
 (b=false->J ys O Sh w)/\(b=true->ys=[]/\Jx O Sh w)
abbrev zee {ts:List T}(G:GY ts):Prop:=∀ (b:Bool) (ys:List (z3l ts)) (st:List A) (a:Act) (w:World),G b ys st a w->∀ live,G b ys (Lift.restr live 0 st) a w
abbrev z1hb {ts:List T}(G:GY ts)(P:Program)(E:Env)(N:Nat)(L:List (List Nat×List Nat))(body:Code):Prop :=
 ∀ (H:Tab (List (z3l ts))),TabOkY G P body H->∀ p,YOk G P (zl body p) (evY E ts zpd N H L p (zl body p))
def SimG (P:Program)(E:Env){ts:List T}(J:List (z3l ts)->(Nat->Prop)->Hp->World->Prop)(Jx:(Nat->Prop)->Hp->World->Prop)(yv:Value):GY ts:=fun b ys st a w =>
 ∃ O Sh S ob,SimD ⟨w,S,fun b=>¬ O b,[(0,yv)]⟩ st a w S ob/\(∀ b,O b->b<w.heap.size)/\GlobOk E.glob S/\Sub Sh S/\(∀ b,S b≠none->Sh b≠none\/¬ O b) ∧
 JJ J Jx b ys O Sh w
section
variable {P:Program} {E:Env} {c:Ctx} {st st':List A} {fp fp':FP} {a:Act} {w w':World} {S:Hp} {ob:Nat->List Nat} {o:Oper}
theorem SimD.shift {c':Ctx}{a':Act}(h:SimD c st a w S ob)(hw:∀ b,(S b≠none\/(∃ i,b∈ob i)\/zbc b∈a.defers)->hp w' b=hp w b)
 (hc:WF c'.w0 c'.B0 w') (hS:Sub c'.S0 S) (hf:∀ i b,b∈ob i->c'.B0 b\/c'.w0.heap.size<=b) (hn:∀ b,S b≠none->c'.S0 b≠none\/c'.B0 b\/c'.w0.heap.size<=b)
 (hm:∀ D,(c.B0 D\/c.w0.heap.size<=D)->hp w D≠none->c'.B0 D\/c'.w0.heap.size<=D) (hta:a'.tmps=a.tmps) (hda:a'.defers=a.defers) (hlent:∀ p∈c'.lent,tv a p.1=p.2):SimD c' st a' w' S ob:=by
 have htv:tv a'=tv a:=by funext i;simp only[tv,hta]
 refine⟨?_,by rw[hta];exact h.size,?_,h.refs,h.out,h.inj,h.nd,h.hid,?_,hS,hf,hn,?_,hc⟩
 . rw[hda];obtain⟨Ds,e,hnd,hD⟩:=h.defers;refine⟨Ds,e,hnd,fun D hDm=>?_⟩;obtain⟨h1,h2,h3,h4⟩:=hD D hDm;refine⟨?_,h2,h3,hm D h4 (by rw[h1];simp)⟩;rw[hw D (.inr (.inr (by rw[e];exact List.mem_map.2 ⟨D,hDm,rfl⟩)))];exact h1
 . intro i x hx;rw[htv];exact (h.rel i x hx).mono (Sub.refl _) (fun b hb=>hw b (.inr (.inl ⟨i,hb⟩))) (fun _ _=>rfl) (fun r hr b hb=>hw b (.inr (.inl ⟨r,h.main hx (A.cell_refs hr) hb⟩)))
 . intro b o hbo;rw[hw b (.inl (by rw[hbo];simp))];exact h.sub b o hbo
 . intro p hp';rw[htv];exact hlent p hp'
theorem zpx {α:Type}{r:α×List A×FP}{glob:Nat->Option Dat}(hgl:E.glob=glob):∀ (xs:List Operand) (k:List Dat->Cmd α) (st:List A) (fp:FP) (S:Hp) (ob:Nat->List Nat),zn E (zxu E xs k) st fp=some r->SimD c st a w S ob->GlobOk glob S →
 ∃ l st' fp' S' ob',zn E (k l) st' fp'=some r/\SimD c st' a w S' ob'/\Sub S S'/\TupRel S' l (xs.map a.eval)
 | [],k,st,fp,S,ob,h,hs,hg=>⟨[],st,fp,S,ob,h,hs,Sub.refl _,.nil⟩
 | x::xs,k,st,fp,S,ob,h,hs,hg=>by
   simp only[zxu] at h;obtain⟨A,fp1,h1,hA,_⟩:=zw h hs (by rw[hgl];exact hg);obtain⟨d,st1,fp2,S1,ob1,h2,hs1,hS1,hv,_⟩:=z6z h1 hs hA;obtain⟨l,st2,fp3,S2,ob2,h3,hs2,hS2,ht⟩:=zpx hgl xs _ _ _ _ _ h2 hs1 (hg.mono hS1);exact⟨d::l,st2,fp3,S2,ob2,h3,hs2,hS1.trans hS2,.cons (hv.mono hS2) ht⟩
section
variable {ts:List T} {J:List (z3l ts)->(Nat->Prop)->Hp->World->Prop} {Jx:(Nat->Prop)->Hp->World->Prop} {l:Nat}
theorem SimG.next {yv:Value}{b:Bool}{ys:List (z3l ts)}{O:Nat->Prop}{Sh:Hp}(hJ:∀ ys,zfl (J ys))(hJx:zfl Jx)(hO:∀ b,O b->b<w.heap.size)(hg:GlobOk E.glob S)(hsh:Sub Sh S)(hsep:∀ b,S b≠none->Sh b≠none\/¬ O b)
 (hj:JJ J Jx b ys O Sh w) (h:Sim ⟨w,S,fun b=>¬ O b,[(0,yv)]⟩ st a w'):SimG P E J Jx yv b ys st a w':=by
 obtain⟨S2,ob2,h⟩:=h;have hwf:WF w (fun b=>¬ O b) w':=h.frame;have hsub:Sub Sh (hp w'):=(hsh.trans h.mono).trans h.sub;have hge:∀ b,w.heap.size<=b->¬ O b:=fun b hb ho=>absurd (hO b ho) (by omega)
 refine⟨O,Sh,S2,ob2,h.shift (fun _ _=>rfl) (WF.refl _ _) (Sub.refl _) (fun i b hb=>.inl ((h.fresh i b hb).elim id (hge b))) (fun b hb=>.inl hb) (fun D hD _=>.inl (hD.elim id (hge D))) rfl rfl h.lent,fun b hb=>Nat.lt_of_lt_of_le (hO b hb) hwf.size,hg.mono h.mono,hsh.trans h.mono,fun b hb=>?_,?_⟩
 . rcases h.newS b hb with h1|h1|h1
   . exact hsep b h1
   . exact .inr h1
   . exact .inr (hge b h1)
 . exact⟨fun e=>hJ ys _ _ _ _ (hj.1 e) hwf hsub,fun e=>⟨(hj.2 e).1,hJx _ _ _ _ (hj.2 e).2 hwf hsub⟩⟩
theorem SimG.base {yv:Value}{O:Nat->Prop}(hE:EnvOk P E)(hl:E.lent=[0])(hg:GlobOk E.glob S):Base P E ⟨w,S,fun b=>¬ O b,[(0,yv)]⟩:=⟨hE,hg,by rw[hl];rfl⟩
def zue (P:Program)(J:List (z3l ts)->(Nat->Prop)->Hp->World->Prop)(Jx:(Nat->Prop)->Hp->World->Prop)(l:Nat):Prop :=
 ∀ y ys (O:Nat->Prop) (Sh S1:Hp) (W1:World) (vals:Array Value),J (y::ys) O Sh W1->Sub Sh S1->Sub S1 (hp W1)->(∀ b,S1 b≠none->Sh b≠none\/¬ O b)->TupRel S1 (mkL ts y) vals.toList →
 YieldAt Fence.wide 0 P l vals W1 fun e W'=>∃ O':Nat->Prop,(∀ b,O b->O' b)/\(∀ b,O' b->O b\/(W1.heap.size<=b/\b<W'.heap.size))/\WF W1 O W'/\Sub S1 (hp W') ∧
 ((e=.returned (.bool true)/\J ys O' S1 W')\/(e=.returned (.bool false)/\Jx O' S1 W'))
theorem zt7 {xs:List Operand}{yv:Value}(h:zt8 st o=some xs)(hs:SimD c st a w S ob)(hl:(0,yv)∈c.lent):∃ k fv,o.op=.call k/\k.callee=.value fv/\a.eval fv=yv/\k.args.toList=xs:=by
 unfold zt8 at h;split at h
 case h_2=>cases h
 rename_i k hk;split at h
 case h_2=>cases h
 rename_i t hc;have h0:=hs.lent (0,yv) hl;split at h
 . rename_i r hy;split at h
   . rename_i hck;obtain⟨h1,h2⟩:=z7 hck;have:=z3x h1;subst this;simp only[Option.some.injEq] at h;have hA:=hs.rel t _ (zm hy (by simp));exact⟨k,_,hk,hc,by show tv a t=yv;rw[hA.1];exact h0,h⟩
   . cases h
 . split at h
   . rename_i ht;have:=z3x ht;subst this;simp only[Option.some.injEq] at h;exact⟨k,_,hk,hc,h0,h⟩
   . cases h
 . cases h
theorem zz0 {ys:List (z3l ts)} {all:Array Oper} {K:List A->Option (List (z3l ts))} {b:Bool} {N:Act->World->Prop} {Q:Exit->Act->World->Prop} (hE:EnvOk P E) (hlent:E.lent=[0]) (hJ:∀ ys,zfl (J ys)) (hJx:zfl Jx) (hy:zue P J Jx l)
 (h:opY E ts zpd all o st K=some ys) (hs:SimG P E J Jx (.func (.yield l) #[] #[]) b ys st a w) (hn:∀ b' ys' st' a' w',K st'=some ys'->SimG P E J Jx (.func (.yield l) #[] #[]) b' ys' st' a' w'->N a' w') :
 if Region.wanted o (yielded all a.tmps) then o.wpIn (FR none) 0 P a w N Q else N (a.put o.dst undef) w:=by
 obtain⟨O,Sh,S,ob,hs,hO,hg,hsh,hsep,hj⟩:=hs;have hb:Base P E ⟨w,S,fun b=>¬ O b,[(0,.func (.yield l) #[] #[])]⟩:=SimG.base hE hlent hg;unfold opY at h;split at h
 . obtain⟨_,st1,fp1,h1,h2⟩:=z1t h;have hgd:=zif h1 hb ⟨S,ob,hs⟩;split
   . rename_i hw;rw[if_pos hw] at hgd;exact Oper.wpIn_mono (fun a' w' hs'=>hn b ys st1 a' w' h2 (SimG.next hJ hJx hO hg hsh hsep hj hs')) (hgd none Q)
   . rename_i hw;rw[if_neg hw] at hgd;exact hn b ys st1 _ _ h2 (SimG.next hJ hJx hO hg hsh hsep hj hgd)
 . rename_i xs hyl;obtain⟨k,fv,ho,hc,hv,hxs⟩:=zt7 (yv:=.func (.yield l) #[] #[]) hyl hs (by simp)
   -- the operation itself
   have hop:∀ st0,st0=st->((zxu E xs fun l=>(.ret l:Cmd (List Dat))).cps E st0 fp0 fun l st1 _=>(unL ts l).bind fun y =>
    zpd y ((lay o.dst (.v .bool true)).cps E st1 fp0 fun _ st2 _=>K st2) ((lay o.dst (.v .bool false)).cps E st1 fp0 fun _ st2 _=>K st2))=some ys->o.wpIn (FR none) 0 P a w N Q:=by
    intro st0 e0 hh;subst e0;obtain⟨ld,st1,fp1,h1,h2⟩:=z1t hh;obtain⟨l',st2,fp2,S1,ob1,h3,hs1,hS1,ht⟩:=zpx (glob:=E.glob) rfl _ _ _ _ _ _ h1 hs hg;have h4:=z3e h3;simp only[Prod.mk.injEq] at h4;obtain⟨rfl,rfl,_⟩:=h4;cases hu:unL ts ld with
    | none=>rw[hu] at h2;cases h2
    | some y =>
    rw[hu] at h2;simp only[Option.bind_some,zpd] at h2;cases hkT:(lay o.dst (.v .bool true)).cps E st1 fp0 fun _ st2 _=>K st2 with
    | none=>rw[hkT] at h2;cases h2
    | some lT =>
    rw[hkT] at h2;simp only[Option.bind_some] at h2;cases hkF:(lay o.dst (.v .bool false)).cps E st1 fp0 fun _ st2 _=>K st2 with
    | none=>rw[hkF] at h2;cases h2
    | some lF =>
    rw[hkF] at h2;simp only[Option.bind_some] at h2;cases lF with
    | cons z zs=>cases h2
    | nil =>
    simp only[Option.some.injEq] at h2;subst h2;cases b with
    | true=>cases (hj.2 rfl).1
    | false =>
    have hj:=hj.1 rfl;rw[zuj hu] at ht;have hsep1:∀ b,S1 b≠none->Sh b≠none\/¬ O b:=fun b hb=>by
     rcases hs1.newS b hb with h1|h1|h1
     . exact hsep b h1
     . exact .inr h1
     . exact .inr (fun ho=>absurd (hO b ho) (Nat.not_lt.2 h1))
    have hya:=hy y lT O Sh S1 w (k.args.map a.eval) hj (hsh.trans hS1) hs1.sub hsep1 (by rw[Array.toList_map,hxs];exact ht);obtain⟨fn,tmps,assign,body,hrun,hround⟩:=hya;refine⟨fun _ _=>trivial,?_⟩;have hex:(execOp a.eval o).run P w=.ok (.round l fn tmps assign body) w:=by
     simp[execOp,ho,resolve,hc,hv,Deferred.ofValue,invoke,hrun]
    show o.uponIn (FR none) 0 P a N Q ((o.semAt none a.eval).run P w);rw[Oper.semAt_none,hex,Oper.uponIn_round];refine⟨fun hd=>by simp[FR,Fence.wide] at hd,?_⟩;refine (show RoundIn (FR none) 0 P l fn tmps assign body w _ from hround).mono ?_;rintro e W' ⟨O',hO1,hO2,hwf,hsub,hcase⟩
    -- the state,behind the round
    have hO2':∀ b,O' b->b<W'.heap.size:=fun b hb=>(hO2 b hb).elim (fun h=>Nat.lt_of_lt_of_le (hO b h) hwf.size) (fun h=>h.2)
    have hnO:∀ b,¬ O b->b<w.heap.size->¬ O' b:=fun b hb hlt h=>(hO2 b h).elim hb (fun h=>absurd hlt (Nat.not_lt.2 h.1))
    have hs2:SimD ⟨W',S1,fun b=>¬ O' b,[(0,.func (.yield l) #[] #[])]⟩ st1 a W' S1 ob1:=by
     have hob:∀ i b,b∈ob1 i->¬ O b/\b<w.heap.size:=fun i b hb=>by
      obtain⟨_,_,o,ho⟩:=hs1.ob_some hb;have hlt:=z5w ho;exact⟨(hs1.fresh i b hb).elim id (fun h=>absurd hlt (Nat.not_lt.2 h)),hlt⟩
     have same:∀ b,¬ O b->b<w.heap.size->hp W' b=hp w b:=fun b hb hlt=>hwf.same b hlt hb
     refine hs1.shift (fun b hb=>?_) (WF.refl _ _) (Sub.refl _) (fun i b hb=>.inl (hnO b (hob i b hb).1 (hob i b hb).2)) (fun b hb=>.inl hb) (fun D hD hD2=>.inl ?_) rfl rfl hs1.lent
     . rcases hb with hb|⟨i,hb⟩|hb
       . cases hx:S1 b with
         | none=>exact absurd hx hb
         | some o=>rw[hsub b o hx,hs1.sub b o hx]
       . exact same b (hob i b hb).1 (hob i b hb).2
       . obtain⟨Ds,e,hnd,hDs⟩:=hs1.defers;rw[e] at hb;obtain⟨D2,hm2,e2⟩:=List.mem_map.1 hb;have e3:D2=b:=by simpa[zbc] using e2
         subst e3;obtain⟨k1,k2,k3,k4⟩:=hDs D2 hm2;have hlt:=z5w k1;exact same D2 (k4.elim id (fun h=>absurd hlt (Nat.not_lt.2 h))) hlt
     . cases hx:hp w D with
       | none=>exact absurd hx hD2
       | some o =>
         have hlt:=z5w hx;exact hnO D (hD.elim id (fun h=>absurd hlt (Nat.not_lt.2 h))) hlt
    have hg1:=hg.mono hS1;have hb2:Base P E ⟨W',S1,fun b=>¬ O' b,[(0,.func (.yield l) #[] #[])]⟩:=SimG.base hE hlent hg1;rcases hcase with⟨rfl,hj'⟩|⟨rfl,hj'⟩
    . dsimp only;obtain⟨_,st3,fp3,h5,h6⟩:=z1t hkT;have:=z11 h5 hb2 hs2 (o':=[]) (v:=.bool true) ⟨VR.bool,rfl⟩ (fun b hb=>by cases hb);exact hn false lT st3 _ _ h6 (SimG.next hJ hJx hO2' hg1 (Sub.refl _) (fun b hb=>.inl hb) ⟨fun _=>hj',fun e=>by cases e⟩ this)
    . dsimp only;obtain⟨_,st3,fp3,h5,h6⟩:=z1t hkF;have:=z11 h5 hb2 hs2 (o':=[]) (v:=.bool false) ⟨VR.bool,rfl⟩ (fun b hb=>by cases hb);exact hn true [] st3 _ _ h6 (SimG.next hJ hJx hO2' hg1 (Sub.refl _) (fun b hb=>.inl hb) ⟨(fun e=>by cases e),fun _=>⟨rfl,hj'⟩⟩ this)
   have hskip:∀ st0,st0=st->((zfn o).cps E st0 fp0 fun _ st' _=>K st')=some ys->N (a.put o.dst undef) w:=by
    intro st0 e0 hh;subst e0;obtain⟨_,st1,fp1,h1,h2⟩:=z1t hh;exact hn b ys st1 _ _ h2 (SimG.next hJ hJx hO hg hsh hsep hj (zgk h1 hb hs))
   unfold z144 at h;split at h
   . rename_i hgn;rw[if_pos (by simp[Region.wanted,hgn])];exact hop st rfl h
   . rename_i j want hgn;split at h
     . cases h
     . rename_i d hd;have hlt:∀ {y:A},st.getD d .dead=y->y ≠ .dead->d<a.tmps.size:=by
        intro y hy hne;rw[hs.size];exact z89 hy hne
       split at h
       . rename_i bb hy';have hA:=hs.rel d _ (zm hy' (by simp));have hvb:tv a d=.bool bb:=hA.1.bool_inv;have hyl':=zef (a:=a) hd (hlt hy' (by simp));rw[hvb] at hyl';have hwant:Region.wanted o (yielded all a.tmps)=(bb == want):=by
          simp only[Region.wanted,hgn,hyl'];cases bb<;>cases want<;>rfl
         rw[hwant];cases want<;>cases bb<;>simp only[cond] at h<;>rw[zbu hy' (by simp)] at h
         . exact hop st rfl h
         . exact hskip st rfl h
         . exact hskip st rfl h
         . exact hop st rfl h
       . rename_i hy';have hA:=hs.rel d _ (zm hy' (by simp));obtain⟨_,vs,hvb,_⟩:=hA;have hyl':=zef (a:=a) hd (hlt hy' (by simp));rw[hvb] at hyl';have hwant:Region.wanted o (yielded all a.tmps)=false:=by
          simp only[Region.wanted,hgn,hyl'];rfl
         rw[hwant];exact hskip st rfl h
       . cases h
theorem zni {all:Array Oper}{Q:Exit->Act->World->Prop}(hE:EnvOk P E)(hlent:E.lent=[0])(hJ:∀ ys,zfl (J ys))(hJx:zfl Jx)(hy:zue P J Jx l):∀ (os:List Oper) (st:List A) (K:List A->Option (List (z3l ts))) (ys:List (z3l ts)) (b:Bool) (a:Act) (w:World),
 seqY E ts zpd all os st K=some ys->SimG P E J Jx (.func (.yield l) #[] #[]) b ys st a w->(∀ b' ys' st' a' w',K st'=some ys'->SimG P E J Jx (.func (.yield l) #[] #[]) b' ys' st' a' w'->Q .normal a' w')->wpListIn (FR none) 0 P all Q os a w
 | [],st,K,ys,b,a,w,h,hs,hn=>hn b ys st a w h hs
 | o :: os,st,K,ys,b,a,w,h,hs,hn=>by
   simp only[seqY] at h;have:=zz0 (N:=wpListIn (FR none) 0 P all Q os) (Q:=Q) hE hlent hJ hJx hy h hs (fun b' ys' st' a' w' hk hs'=>zni hE hlent hJ hJx hy os st' K ys' b' a' w' hk hs' hn);unfold wpListIn;split
   . rename_i hw;rw[if_pos hw] at this;exact this
   . rename_i hw;rw[if_neg hw] at this;exact⟨fun _ _=>trivial,this⟩
theorem SimG.restr {yv:Value}{b:Bool}{ys:List (z3l ts)}(h:SimG P E J Jx yv b ys st a w)(live:List Nat):SimG P E J Jx yv b ys (restr live 0 st) a w:=by
 obtain⟨O,Sh,S,ob,hs,rest⟩:=h;obtain⟨ob',hs'⟩:=hs.restr live;exact⟨O,Sh,S,ob',hs',rest⟩
theorem SimG.rs {yv:Value}{b:Bool}{ys:List (z3l ts)}(h:SimG P E J Jx yv b ys st a w)(L:List (List Nat×List Nat))(p:List Nat):SimG P E J Jx yv b ys (Lift.rs L p st) a w:=by
 unfold Lift.rs;split
 . exact h.restr _
 . exact h
theorem zg1 {G:GY ts}(hG:zee G){k:Code}{f:Hd (List (z3l ts))}(hk:YOk G P k f)(live:List Nat)(Q:Exit->Act->World->Prop):∀ (n:Nat) (st:List A) (K:Ex->List A->Option (List (z3l ts))) (ys:List (z3l ts)) (b:Bool) (a:Act) (w:World),zc5 live f n st K=some ys →
 G b ys st a w->(∀ e st' ys' b' a' w',K e st'=some ys'->G b' ys' st' a' w'->Q e.exit' a' w')->k.wp P (Exit.then (Inl P k Q) Q) a w
 | 0,st,K,ys,b,a,w,h,hs,hq=>by simp[zc5] at h
 | n+1,st,K,ys,b,a,w,h,hs,hq=>by
   simp only[zc5] at h;refine hk st _ ys b a w _ h hs fun e st' ys' b' a' w' hK hs'=>?_
   cases e with
   | normal=>exact zvg (zg1 hG hk live Q n _ K ys' b' a' w' hK (hG _ _ _ _ _ hs' live) hq)
   | exit id=>exact hq _ _ _ _ _ _ hK hs'
   | ret=>exact hq _ _ _ _ _ _ hK hs'
theorem TabOkY.nil {G:GY ts}{body:Code}:TabOkY G P body []:=fun q h e=>by cases e
theorem TabOkY.cons {G:GY ts}{body:Code}{q:List Nat}{k:Hd (List (z3l ts))}{H:Tab (List (z3l ts))}(h:YOk G P (zl body q) k)(ht:TabOkY G P body H):TabOkY G P body ((q,k)::H):=by
 intro q' h' e;simp only[zj8] at e;split at e
 . rename_i hq;cases e;rw[<- z106 hq];exact h
 . exact ht q' h' e
theorem zhu {G:GY ts}{body k:Code}{H:Tab (List (z3l ts))}{q:List Nat}{f:Hd (List (z3l ts))}(hH:TabOkY G P body H)(hq:zl body q=k)(hf:YOk G P k f):YOk G P k (via (zj8 H q) f):=by
 cases hl:zj8 H q with
 | none=>exact hf
 | some h=>rw[<- hq];exact hH q h hl
theorem zrf (hE:EnvOk P E) (hlent:E.lent=[0]) (hJ:∀ ys,zfl (J ys)) (hJx:zfl Jx) (hy:zue P J Jx l) (N:Nat) (H:Tab (List (z3l ts))) (L:List (List Nat×List Nat)) (body:Code) (hH:TabOkY (SimG P E J Jx (.func (.yield l) #[] #[])) P body H) (p:List Nat) :
 ∀ (k:Code),zl body p=k->YOk (SimG P E J Jx (.func (.yield l) #[] #[])) P k (evY E ts zpd N H L p k):=by
 intro k
 induction k generalizing p with
 | skip=>exact fun _ st K ys b a w Q h hs hq=>wp_skip (hq .normal _ _ _ _ _ h (hs.rs _ _))
 | region id ops draw =>
   intro _ st K ys b a w Q h hs hq;cases draw with
   | false =>
     simp only[evY] at h;refine (wpIn_wide (n:=0)).1 (wpIn_region_list (F:=Fence.wide) ?_);exact zni hE hlent hJ hJx hy _ _ _ _ _ _ _ h hs (fun b' ys' st' a' w' hk hs'=>hq .normal _ _ _ _ _ hk (hs'.rs _ _))
   | true =>
     simp only[evY] at h;obtain⟨O,Sh,S,ob,hs,hO,hg,hsh,hsep,hj⟩:=hs;have hb:Base P E ⟨w,S,fun b=>¬ O b,[(0,.func (.yield l) #[] #[])]⟩:=SimG.base hE hlent hg;obtain⟨st',hK,hw⟩:=zo7 (id:=id) hb h;refine (wpIn_wide (n:=0)).1 (hw none Q a w ⟨S,ob,hs⟩ fun a' w' hs'=>?_);exact hq .normal _ _ _ _ _ hK ((SimG.next hJ hJx hO hg hsh hsep hj hs').rs _ _)
 | seq x z ihx ihz =>
   intro hp st K ys b a w Q h hs hq;have hx:=zhu hH (q:=0::p) (by simp only[zl,hp,z7m]) (ihx (0::p) (by simp only[zl,hp,z7m]));have hz:=zhu hH (q:=1::p) (by simp only[zl,hp,z7m]) (ihz (1::p) (by simp only[zl,hp,z7m]));simp only[evY] at h;refine wp_seq (hx st _ ys b a w _ h hs fun e st' ys' b' a' w' hK hs'=>?_);cases e with
   | normal=>exact hz st' K ys' b' a' w' Q hK hs' hq
   | exit id=>exact hq _ _ _ _ _ _ hK hs'
   | ret=>exact hq _ _ _ _ _ _ hK hs'
 | cond x t e iht ihe =>
   intro hp st K ys b a w Q h hs hq;have ht:=zhu hH (q:=0::p) (by simp only[zl,hp,z7m]) (iht (0::p) (by simp only[zl,hp,z7m]));have he:=zhu hH (q:=1::p) (by simp only[zl,hp,z7m]) (ihe (1::p) (by simp only[zl,hp,z7m]));simp only[evY] at h;obtain⟨v,st1,fp1,h1,h2⟩:=z1t h;have hq':∀ e st' ys' b' a' w',zzt L p K e st'=some ys'->SimG P E J Jx (.func (.yield l) #[] #[]) b' ys' st' a' w'->Q e.exit' a' w':=by
    intro e st' ys' b' a' w' hK hs';cases e with
    | normal=>exact hq .normal _ _ _ _ _ hK (hs'.rs _ _)
    | exit id=>exact hq (.exit id) _ _ _ _ _ hK hs'
    | ret=>exact hq .ret _ _ _ _ _ hK hs'
   split at h2
   . rename_i bb;have hev:a.eval x=.bool bb:=by
      obtain⟨O,Sh,S,ob,hs,hO,hg,hsh,hsep,hj⟩:=hs;obtain⟨A,fp',h3,hA,_⟩:=zw h1 hs hg;have:=z3e h3;simp only[Prod.mk.injEq] at this;rw[<- this.1] at hA;exact hA.1.bool_inv
     cases bb with
     | true =>
       simp only[cond] at h2;exact wp_cond_true hev (ht st _ ys b a w Q h2 hs hq')
     | false =>
       simp only[cond] at h2;exact wp_cond_false hev (he st _ ys b a w Q h2 hs hq')
   . cases h2
 | block id x ihx =>
   intro hp st K ys b a w Q h hs hq;have hx:=zhu hH (q:=0::p) (by simp only[zl,hp,z7m]) (ihx (0::p) (by simp only[zl,hp,z7m]));simp only[evY] at h;refine wp_block (hx st _ ys b a w _ h hs fun e st' ys' b' a' w' hK hs'=>?_);cases e with
   | normal=>exact hq .normal _ _ _ _ _ hK (hs'.rs _ _)
   | exit j =>
     dsimp only at hK;split at hK
     . rename_i hj;have hj:=z3x hj;subst hj;simp only[Ex.exit',Exit.inBlock,if_true];exact hq .normal _ _ _ _ _ hK (hs'.rs _ _)
     . rename_i hj;have hj:j≠id:=fun e=>by subst e;simp[Nat.beq_refl] at hj
       simp only[Ex.exit',Exit.inBlock,if_neg hj];exact hq (.exit j) _ _ _ _ _ hK hs'
   | ret=>exact hq .ret _ _ _ _ _ hK hs'
 | loop x ihx =>
   intro hp st K ys b a w Q h hs hq;have hx:=zhu hH (q:=0::p) (by simp only[zl,hp,z7m]) (ihx (0::p) (by simp only[zl,hp,z7m]));simp only[evY] at h;exact zp0 (zg1 (fun _ _ _ _ _ h live=>h.restr live) hx _ Q _ _ K ys b a w h (hs.restr _) hq)
 | exit id=>exact fun _ st K ys b a w Q h hs hq=>wp_exit (hq (.exit id) _ _ _ _ _ h (hs.rs _ _))
 | ret=>exact fun _ st K ys b a w Q h hs hq=>wp_ret (hq .ret _ _ _ _ _ h (hs.rs _ _))
 | _=>intro _ st K ys b a w Q h;simp[evY] at h
theorem z1bj {G:GY ts}(hG:zee G){k:Code}{f:Hd (List (z3l ts))}{s:List (Nat×AS)}{m:Nat}{g:z1k s->(Ex->List A->Option (List (z3l ts)))->Option (List (z3l ts))}(live:List Nat)(hf:YOk G P k f)(h:∀ x K,f (mkS s m x) K=g x K) :
 YOk G P k (fun st K=>(unS s m (Lift.restr live 0 st)).bind fun x=>g x K):=by
 intro st K ys b a w Q hy hs hq;dsimp only at hy;cases hu:unS s m (Lift.restr live 0 st) with
 | none=>simp only[hu] at hy;cases hy
 | some x =>
   simp only[hu,Option.bind_some] at hy;rw[<- h,<- zda hu] at hy;exact hf _ K ys b a w Q hy (hG _ _ _ _ _ hs live) hq
theorem zk9 {G:GY ts}(hG:zee G){ι σ:Type}{k:Code}{f:Hd (List (z3l ts))}{s:List (Nat×AS)}{m:Nat}(g:ι->σ->(σ->Option (List (z3l ts)))->(Ex->List A->Option (List (z3l ts)))->Option (List (z3l ts)))(live:List Nat)(N:Nat)(pi:z1k s->ι)(pv:z1k s->σ)(mk:ι->σ->z1k s)(hmk:∀ x,mk (pi x) (pv x)=x)(hf:YOk G P k f)
 (h:∀ i v rec K,f (mkS s m (mk i v)) (brk live rec K)=g i v (fun v'=>rec (mkS s m (mk i v'))) K) :
 YOk G P (.loop k) (fun st K=>(unS s m (Lift.restr live 0 st)).bind fun x=>iter (fun v r=>g (pi x) v r K) N (pv x)):=by
 intro st K ys b a w Q hy hs hq;dsimp only at hy;cases hu:unS s m (Lift.restr live 0 st) with
 | none=>simp only[hu] at hy;cases hy
 | some x =>
   simp only[hu,Option.bind_some] at hy;rw[<- zi8 (mk:=fun i v=>mkS s m (mk i v)) (live:=live) (f:=f) h,hmk] at hy;refine zp0 (zg1 hG hf live Q N _ K ys b a w hy ?_ hq);rw[<- zda hu];exact hG _ _ _ _ _ hs live
end
def z1a8 (E:Env) (ts:List T) (cb:z3l ts->Option (List (z3l ts))->Option (List (z3l ts))->Option (List (z3l ts))) (N:Nat) (H:Tab (List (z3l ts))) (L:List (List Nat×List Nat)) (fn:Func) (args:List A):Option (List (z3l ts)) :=
 match fn.body with
 | none=>none
 | some body=>match z1i (fn.results.isEmpty) (Nat.blt args.length fn.ntmps) with
   | true=>evY E ts cb N H L [] body (.yld::args.append (z69 (fn.ntmps - (args.length+1)))) fun e st=>match e with
     | .exit _=>none
     | _=>some []
   | false=>none
def itv {ts:List T}(t:T)(F:t.den->Option (List (z3l ts)))(d:Dat):Option (List (z3l ts)):=match cast d.1 t d.2 with
 | some x=>F x
 | none=>none
def zwx {ts:List T}(t:T)(F:t.den->Option (List (z3l ts)))(d:Dat):ItRes:=⟨ts,itv t F d⟩
theorem zrc:∀ (t:T) (x:t.den) (l:List A) (cs:List Value),z18 t x=some l->Rd S t x cs->l.length=cs.length/\∀ (i:Nat) (y:A),l[i]?=some y->∃ t' z v,y=.v t' z/\cs[i]?=some v/\VR S t' z v
 | .unit,x,l,cs,h,hr=>by
   simp[z18] at h;subst h;have:cs=[]:=hr;subst this;exact⟨rfl,fun i y hy=>by simp at hy⟩
 | .pair (.ptr t) b,x,l,cs,h,hr=>by
   simp only[z18] at h;split at h
   . rename_i l' hl';cases h;obtain⟨c1,c2,e,h1,h2⟩:=hr;obtain⟨bk,off,c3,e1,_⟩:=id h1;subst e1;subst e;obtain⟨k1,k2⟩:=zrc b x.2 l' c2 hl' h2;refine⟨by simp[k1],fun i y hy=>?_⟩;cases i with
     | zero=>simp at hy;subst hy;exact⟨_,_,_,rfl,rfl,VR.of_one rfl h1⟩
     | succ i=>simpa using k2 i y (by simpa using hy)
   . cases h
 | .int _,x,l,cs,h,hr=>by simp[z18] at h
 | .bool,x,l,cs,h,hr=>by simp[z18] at h
 | .str,x,l,cs,h,hr=>by simp[z18] at h
 | .opq,x,l,cs,h,hr=>by simp[z18] at h
 | .arr _ _,x,l,cs,h,hr=>by simp[z18] at h
 | .sl _,x,l,cs,h,hr=>by simp[z18] at h
 | .ptr _,x,l,cs,h,hr=>by simp[z18] at h
 | .own _,x,l,cs,h,hr=>by simp[z18] at h
 | .any,x,l,cs,h,hr=>by simp[z18] at h
 | .byt _,x,l,cs,h,hr=>by simp[z18] at h
 | .self _,x,l,cs,h,hr=>by simp[z18] at h
 | .fn _ _,x,l,cs,h,hr=>by simp[z18] at h
 | .pair (.int _) _,x,l,cs,h,hr=>by simp[z18] at h
 | .pair .bool _,x,l,cs,h,hr=>by simp[z18] at h
 | .pair .str _,x,l,cs,h,hr=>by simp[z18] at h
 | .pair .opq _,x,l,cs,h,hr=>by simp[z18] at h
 | .pair .unit _,x,l,cs,h,hr=>by simp[z18] at h
 | .pair (.pair _ _) _,x,l,cs,h,hr=>by simp[z18] at h
 | .pair (.arr _ _) _,x,l,cs,h,hr=>by simp[z18] at h
 | .pair (.sl _) _,x,l,cs,h,hr=>by simp[z18] at h
 | .pair (.own _) _,x,l,cs,h,hr=>by simp[z18] at h
 | .pair .any _,x,l,cs,h,hr=>by simp[z18] at h
 | .pair (.byt _) _,x,l,cs,h,hr=>by simp[z18] at h
 | .pair (.self _) _,x,l,cs,h,hr=>by simp[z18] at h
 | .pair (.fn _ _) _,x,l,cs,h,hr=>by simp[z18] at h
theorem ItOk.of {ts : List T} {f : FuncId} {fn : Func} {body : Code} {N : Nat} {H : Tab (List (z3l ts))} {L : List (List Nat × List Nat)} {t : T} {F : t.den -> Option (List (z3l ts))} (hE : EnvOk P E) (hlent : E.lent = [0]) (hf : P.funcs[f]? = some fn) (hbody : fn.body = some body) (hname : fn.name ≠ "runtime.NumGoroutine")
 (hH:∀ (G:GY ts),zee G->z1hb G P E N L body->TabOkY G P body H)
 (hF:∀ x y,F x=some y->∃ l,z18 t x=some l/\z1a8 E ts zpd N H L fn l=some y):ItOk P E.glob f (zwx t F):=by
 refine⟨⟨fn,hf,by rw[hbody];rfl,hname⟩,?_⟩;intro W S d caps hrd hS hg xs hxs l J Jx hJ hJx hy hj;dsimp only[zwx,itv] at hxs hy hj J;cases hc:cast d.1 t d.2 with
 | none=>rw[hc] at hxs;cases hxs
 | some x =>
 rw[hc] at hxs;dsimp only at hxs;obtain⟨args,hargs,hev⟩:=hF x xs hxs;obtain⟨hlen,hat⟩:=zrc t x args caps.toList hargs (z10m hc hrd);unfold z1a8 at hev;rw[hbody] at hev;dsimp only at hev;split at hev
 case h_2=>cases hev
 rename_i hck;obtain⟨hres,hnt⟩:=z7 hck;have hnt:args.length<fn.ntmps:=by simpa using hnt
 have hresE:fn.results=#[]:=by simpa using hres
 have happ:args.append (z69 (fn.ntmps - (args.length+1)))=args++z69 (fn.ntmps - (args.length+1)):=rfl;rw[happ] at hev
 let yv:Value:=.func (.yield l) #[] #[]
 let O:Nat->Prop:=fun b=>b<W.heap.size
 let c:Ctx:=⟨W,S,fun b=>¬ O b,[(0,yv)]⟩
 have hlen':args.length=caps.size:=by simpa using hlen
 let a0:Act:={ tmps:=(#[yv]++caps)++Array.replicate (fn.ntmps - (#[yv]++caps).size) undef,defers:=[] }
 have htv:∀ i,tv a0 i=(yv::caps.toList).getD i undef:=by
  intro i;simp only[tv,a0,Array.getD_eq_getD_getElem?,List.getD_eq_getElem?_getD];by_cases hi:i<(#[yv]++caps).size
  . rw[Array.getElem?_append_left hi];congr 1;rw[<- Array.getElem?_toList];simp
  . rw[Array.getElem?_append_right (by omega),List.getElem?_eq_none (by simp at hi ⊢;omega),Array.getElem?_replicate];split<;>rfl
 have hs0:SimD c (.yld::(args++z69 (fn.ntmps - (args.length+1)))) a0 W S (fun _=>[]):=by
  refine⟨⟨[],rfl,.nil,fun D hD=>by cases hD⟩,?_,?_,?_,fun _ _=>rfl,fun i j b h=>(by cases h),fun _=>.nil,fun i b h=>(by cases h),hS,Sub.refl _,fun i b h=>(by cases h),fun b h=>.inl h,?_,WF.refl _ _⟩
  . simp[a0,zbm];omega
  . intro i y hy;rw[htv];cases i with
    | zero=>simp at hy;subst hy;exact⟨rfl,rfl⟩
    | succ i =>
      simp only[List.getElem?_cons_succ] at hy;by_cases hi:i<args.length
      . rw[List.getElem?_append_left hi] at hy;obtain⟨t',z,v,rfl,hv,hvr⟩:=hat i y hy;refine⟨?_,rfl⟩;simp[List.getD,hv];exact hvr
      . rw[List.getElem?_append_right (by omega),zd9] at hy;split at hy
        . simp only[Option.some.injEq] at hy;subst hy;refine⟨rfl,#[],?_,.nil⟩;have:(yv::caps.toList)[i+1]?=none:=by rw[List.getElem?_eq_none];simp;omega
          simp only[List.getD_eq_getElem?_getD,this];rfl
        . cases hy
  . intro i y r hy hr;cases i with
    | zero=>simp at hy;subst hy;cases hr
    | succ i =>
      simp only[List.getElem?_cons_succ] at hy;by_cases hi:i<args.length
      . rw[List.getElem?_append_left hi] at hy;obtain⟨t',z,v,rfl,_⟩:=hat i y hy;cases hr
      . rw[List.getElem?_append_right (by omega),zd9] at hy;split at hy
        . simp only[Option.some.injEq] at hy;subst hy;cases hr
        . cases hy
  . intro p hp';have:p=(0,yv):=by simpa[c] using hp'
    subst this;rw[htv];rfl
 have hev1:=fun (H:Tab (List (z3l ts))) hH p=>zrf (P:=P) (E:=E) (J:=J) (Jx:=Jx) (l:=l) hE hlent hJ hJx hy N H L body hH p (zl body p) rfl
 have hev0:=zrf (P:=P) (E:=E) (J:=J) (Jx:=Jx) (l:=l) hE hlent hJ hJx hy N H L body (hH _ (fun _ _ _ _ _ h live=>h.restr live) hev1) [] body rfl;refine callsIn_wide.1 (callsIn_of_wp_marks (n:=0) hf hbody trivial (wpIn_wide.2 (hev0 _ _ _ false a0 W _ hev ⟨O,S,S,_,hs0,fun b hb=>hb,hg,Sub.refl _,fun b hb=>.inl hb,⟨fun _=>hj,fun e=>by cases e⟩⟩ ?_)));rintro e st1 ys' b' a1 w1 hK ⟨O1,Sh1,S1,ob1,hs1,hO1,hg1,hsh1,hsep1,hj1⟩;have hne:(e=.normal\/e=.ret)/\ys'=[]:=by
  cases e with
  | exit id=>cases hK
  | normal=>exact⟨.inl rfl,by simpa using hK.symm⟩
  | ret=>exact⟨.inr rfl,by simpa using hK.symm⟩
 obtain⟨hee,rfl⟩:=hne;have key:LeavesInM Fence.wide 0 P fn a1.tmps (fun e w'=>(∃ v,e=.returned v)/\∃ O Sh,J [] O Sh w'\/Jx O Sh w') a1.defers .returning w1:=by
  refine zds a1.defers a1 w1 rfl rfl hs1 ?_;intro a' w' hta hs2;refine⟨.tuple #[],?_,⟨_,rfl⟩,O1,Sh1,?_⟩
  . rw[zel,hresE];simp
  . have hwf:WF w1 (fun b=>¬ O1 b) w':=hs2.frame;have hsub:Sub Sh1 (hp w'):=hsh1.trans hs2.sub;cases b' with
    | false=>exact .inl (hJ [] _ _ _ _ (hj1.1 rfl) hwf hsub)
    | true=>exact .inr (hJx _ _ _ _ (hj1.2 rfl).2 hwf hsub)
 rcases hee with rfl|rfl<;>exact key
end
end
end Go.Lift
