import Derived.Test.YtkkkgfmjjkpjdaaGreatDoorLgX
set_option linter.all false
namespace Go.Lift
noncomputable section
set_option maxHeartbeats 60000
def Good (P:Program)(c:Ctx)(o:Oper)(a:Act)(w:World)(st':List A):Prop :=
 ∀ Q,o.wp P a w (fun a' w'=>Sim c st' a' w') Q
section
variable {P:Program} {E:Env} {c:Ctx} {st st':List A} {fp fp':FP} {a:Act} {w w':World} {S:Hp} {ob:Nat->List Nat} {o:Oper}
theorem z6x {α:Type}{x u:α}(h:z11 E (.ret x) st fp=some (u,st',fp')):u=x/\st'=st:=by
 have:=z9y h;simp only[Prod.mk.injEq] at this;exact⟨this.1,this.2.1⟩
theorem zb {v:Value}(hrun:(execOp a.eval o).run P w=.ok (.value v) w')(h:Sim c st' (a.put o.dst v) w'):Good P c o a w st':=by
 intro Q;simp only[Oper.wp,hrun,Oper.upon_value];exact h
theorem zmg (hrun:(execOp a.eval o).run P w=.ok .skip w')(h:Sim c st' (a.put o.dst undef) w'):Good P c o a w st':=by
 intro Q;simp only[Oper.wp,hrun,Oper.upon_skip];exact h
theorem z1pl {st:List A}{r:Nat}(h:z7z st r=true):∃ y:A,st[r]?=some y/\y.own=true:=by
 unfold z7z at h;split at h
 . rename_i t xs hy;exact⟨_,zo hy (by simp),rfl⟩
 . rename_i t xs hy;exact⟨_,zo hy (by simp),rfl⟩
 . rename_i t xs hy;exact⟨_,zo hy (by simp),rfl⟩
 . rename_i hy;exact⟨_,zo hy (by simp),rfl⟩
 . rename_i t xs hy;exact⟨_,zo hy (by simp),rfl⟩
 . rename_i xs hy;exact⟨_,zo hy (by simp),rfl⟩
 . simp at h
theorem z5s {t:Nat}{x:A}(h:zps E st t x=true):t<st.length/\t∉E.lent/\∀ r∈x.refs,r≠t/\∃ y:A,st[r]?=some y/\y.own=true:=by
 unfold zps at h;obtain⟨h1,h2⟩:=z7 h;obtain⟨h1,h3⟩:=z7 h1;refine⟨by simpa using h1,by simpa using h3,fun r hr=>?_⟩;have one:∀ s,r=s->z2j (!(Nat.beq s t)) (z7z st s)=true->r≠t/\∃ y:A,st[r]?=some y/\y.own=true:=by
  intro s e h2;subst e;obtain⟨h4,h5⟩:=z7 h2;exact⟨by intro e;subst e;simp[Nat.beq_refl] at h4,z1pl h5⟩
 cases x<;>simp only[A.refs,List.mem_singleton,List.not_mem_nil] at hr
 case clo f rs =>
  simp only[z1ks,List.all_eq_true] at h2;exact one r rfl (h2 r hr)
 all_goals (simp only[z1ks] at h2;exact one _ hr h2)
structure Base (P:Program) (E:Env) (c:Ctx):Prop where
 env:EnvOk P E
 glob:GlobOk E.glob c.S0
 lent:E.lent=c.lent.map Prod.fst
theorem Base.globS (hb:Base P E c)(hs:SimD c st a w S ob):GlobOk E.glob S:=hb.glob.mono hs.mono
theorem z1dh {α:Type}{r:α×List A×FP}{k:Cmd α}{t:Nat}{x:A}{v:Value}{o':List Nat}(h:z11 E (.set t x k) st fp=some r)(hb:Base P E c)(hs:SimD c st a w S ob)
 (hx:ARel (hp w) S (tv a) x v o') (ho:∀ b∈o',(∀ i,b∉ob i)/\S b=none/\(c.B0 b\/c.w0.heap.size<=b)) (hnd:o'.Nodup:=by simp) :
 ∃ fp',z11 E k (ze0 st t x) fp'=some r/\SimD c (ze0 st t x) (a.put (some t) v) w S (fun i=>if i=t then o' else ob i):=by
 obtain⟨hok,fp',h'⟩:=z7n h;obtain⟨h1,h2,h3⟩:=z5s hok;refine⟨fp',h',hs.put h1 (fun p hp' e=>h2 ?_) hx h3 (fun b hb'=>⟨fun i _=>(ho b hb').1 i,(ho b hb').2⟩) hnd⟩;rw[hb.lent,List.mem_map];exact⟨p,hp',e⟩
theorem z1e {d:Option Nat}{x:A}{v:Value}{o':List Nat}{u:Unit}(h:z11 E (lay d x) st fp=some (u,st',fp'))(hb:Base P E c)(hs:SimD c st a w S ob)
 (hx:ARel (hp w) S (tv a) x v o') (ho:∀ b∈o',(∀ i,b∉ob i)/\S b=none/\(c.B0 b\/c.w0.heap.size<=b)) (hnd:o'.Nodup:=by simp):Sim c st' (a.put d v) w:=by
 cases d with
 | none =>
   simp only[lay] at h;obtain rfl:=(z6x h).2;exact⟨S,ob,hs⟩
 | some t =>
   simp only[lay] at h;obtain⟨fp'',h',hs'⟩:=z1dh h hb hs hx ho hnd;obtain rfl:=(z6x h').2;exact⟨S,_,hs'⟩
theorem zl {d:Option Nat}{t:T}{x:t.den}{v:Value}{u:Unit}(h:z11 E (lay d (.v t x)) st fp=some (u,st',fp'))(hb:Base P E c)(hs:SimD c st a w S ob)
 (hx:VR S t x v):Sim c st' (a.put d v) w:=z1e h hb hs (o':=[]) ⟨hx,rfl⟩ (fun b e=>by cases e)
theorem z1nd {x:Operand} (ho:o.op=.move x) (h:z11 E (z38 E o) st fp=some ((),st',fp')) (hb:Base P E c) (hs:SimD c st a w S ob):Good P c o a w st':=by
 simp only[z38,ho] at h;split at h
 . obtain⟨A,fp1,h1,hA,hAo,hAd,hr⟩:=z13 h hs (hb.globS hs);clear h;split at h1
   . rename_i r;obtain⟨fp2,h2⟩:=z16 h1;split at h2
     . rename_i t xs hy;obtain⟨fp3,h3⟩:=z6d h2;obtain⟨S',t1,z1,hS,e1,hv,hs'⟩:=hs.retire (zo hy (by simp)) (y:=.v (.sl t) xs) rfl;cases e1;refine zb (v:=a.eval x) (w':=w) (by simp[execOp,ho]) ?_;exact z1e h3 hb hs' (o':=[]) ⟨by rw[hA.1];exact hv,rfl⟩ (fun b e=>by cases e)
     . refine zb (v:=a.eval x) (w':=w) (by simp[execOp,ho]) ?_;exact z1e h2 hb hs hA (fun b e=>by cases e)
   . refine zb (v:=a.eval x) (w':=w) (by simp[execOp,ho]) ?_;exact z1e h1 hb hs hA (fun b e=>by cases e)
 . obtain⟨A,fp1,h,hA,hAo,hAd,hr⟩:=z13 h hs (hb.globS hs);refine zb (v:=a.eval x) (w':=w) (by simp[execOp,ho]) ?_;exact z1e h hb hs hA (fun b e=>by cases e)
theorem z1my {x y z:Operand}(ho:o.op=.pick x y z)(h:z11 E (z38 E o) st fp=some ((),st',fp'))(hb:Base P E c)(hs:SimD c st a w S ob):Good P c o a w st':=by
 simp only[z38,ho,z1mz] at h;obtain⟨A,fp1,h1,hA,hAo,hAd,hr⟩:=z13 h hs (hb.globS hs);clear h;split at h1
 . rename_i b;have hx:a.eval x=.bool b:=hA.1.bool_inv;rcases zba h1 with⟨rfl,h⟩|⟨rfl,h⟩
   . obtain⟨B,fp2,h,hB,hBo,hBd,hr2⟩:=z13 h hs (hb.globS hs);exact zb (v:=a.eval y) (w':=w) (by simp[execOp,ho,hx,asBool]) (z1e h hb hs hB (fun b e=>by cases e))
   . obtain⟨B,fp2,h,hB,hBo,hBd,hr2⟩:=z13 h hs (hb.globS hs);exact zb (v:=a.eval z) (w':=w) (by simp[execOp,ho,hx,asBool]) (z1e h hb hs hB (fun b e=>by cases e))
 . exact (z6 h1).elim
theorem z1la {op:BinOp}{k k':IntKind}{m n:Int}{d:Option Nat}{t:TypeId}{u:Unit}(h:z11 E (z1jq op k m k' n d) st fp=some (u,st',fp')) :
 ∃ (t':T) (x:t'.den) (v:Value) (fp1:FP),z11 E (lay d (.v t' x)) st fp1=some (u,st',fp')/\(∀ S,VR S t' x v)/\(binOp op t (.int k m) (.int k' n)).run P w=.ok v w:=by
 by_cases hs1:op=.shl
 . subst hs1;obtain⟨hc,h⟩:=z10 h;have hc:0<=n:=by simpa using hc
   exact⟨_,_,_,_,h,fun _=>VR.int,by simp[binOp,Op.shift,shlI,show ¬ n<0 by omega]⟩
 by_cases hs2:op=.shr
 . subst hs2;obtain⟨hc,h⟩:=z10 h;have hc:0<=n:=by simpa using hc
   exact⟨_,_,_,_,h,fun _=>VR.int,by simp[binOp,Op.shift,shrI,show ¬ n<0 by omega]⟩
 by_cases hk:k=k'
 . subst hk;have quo:∀ {v:Int} {rr:Unit×List A×FP},z11 E (.test (n == 0) .fail (lay d (.v (.int k) v))) st fp=some rr->¬ n=0/\z11 E (lay d (.v (.int k) v)) st fp=some rr:=by
    intro v rr h;rcases zba h with⟨_,h⟩|⟨hc,h⟩
    . exact (z6 h).elim
    . exact⟨by simpa using hc,h⟩
   cases op<;>simp only[z1jq,decide_true,not_true_eq_false] at h hs1 hs2<;>(try exact (z6 h).elim)
   case quo=>obtain⟨h0,h⟩:=quo h;exact⟨_,_,_,_,h,fun _=>VR.int,by simp[binOp,Op.intDiv,h0]⟩
   case rem=>obtain⟨h0,h⟩:=quo h;exact⟨_,_,_,_,h,fun _=>VR.int,by simp[binOp,Op.intDiv,h0]⟩
   case add=>exact⟨_,_,_,_,h,fun _=>VR.int,by simp[binOp,Op.intArith]⟩
   case sub=>exact⟨_,_,_,_,h,fun _=>VR.int,by simp[binOp,Op.intArith]⟩
   case mul=>cases k<;>exact⟨_,_,_,_,h,fun _=>VR.int,by simp[binOp,Op.intArith,Int.mul_comm]⟩
   case and=>exact⟨_,_,_,_,h,fun _=>VR.int,by simp[binOp,Op.intBits,bitsOp]⟩
   case or=>exact⟨_,_,_,_,h,fun _=>VR.int,by simp[binOp,Op.intBits,bitsOp]⟩
   case xor=>exact⟨_,_,_,_,h,fun _=>VR.int,by simp[binOp,Op.intBits,bitsOp]⟩
   case andNot=>exact⟨_,_,_,_,h,fun _=>VR.int,by simp[binOp,Op.intBits,bitsOp]⟩
   all_goals exact⟨_,_,_,_,h,fun _=>VR.bool,by simp[binOp,Op.intCmp]⟩
 . cases op<;>simp only[z1jq,hk,decide_false,not_true_eq_false] at h hs1 hs2<;>exact (z6 h).elim
theorem z1kg {op:BinOp}{x y:List UInt8}{d:Option Nat}{t:TypeId}{u:Unit}(h:z11 E (z1ma op x y d) st fp=some (u,st',fp')) :
 ∃ (t':T) (z:t'.den) (v:Value) (fp1:FP),z11 E (lay d (.v t' z)) st fp1=some (u,st',fp')/\(∀ S,VR S t' z v)/\(binOp op t (.string ⟨⟨x⟩⟩) (.string ⟨⟨y⟩⟩)).run P w=.ok v w:=by
 cases op<;>simp only[z1ma] at h<;>(try exact (z6 h).elim)
 case add =>
  obtain⟨hc,h⟩:=z10 h;have hc:x.length+y.length<=9223372036854775807:=by simpa using hc
  refine⟨_,_,.string ⟨⟨x++y⟩⟩,_,h,fun _=>VR.str,?_⟩;have e1:(⟨⟨x⟩⟩:ByteArray).size=x.length:=by simp[ByteArray.size]
  have e2:(⟨⟨y⟩⟩:ByteArray).size=y.length:=by simp[ByteArray.size]
  have e3:(⟨⟨x⟩⟩++⟨⟨y⟩⟩:ByteArray)=⟨⟨x++y⟩⟩:=by
   apply ByteArray.ext;simp[ByteArray.data_append]
  have e4:¬ IntKind.i64.max<((x.length+y.length:Nat):Int):=by
   have:IntKind.i64.max=9223372036854775807:=by decide
   rw[this];omega
  simp only[binOp,Op.stringOp,e1,e2,e3];rw[if_neg (by simpa using e4)];rfl
 all_goals exact⟨_,_,_,_,h,fun _=>VR.bool,by simp[binOp,Op.stringOp,ByteArray.toList_eq]⟩
theorem z1i8 {op:BinOp} {t:TypeId} {x y:Operand} {v u:Value} (h:v ≠ .nilIface\/u ≠ .nilIface) (h':v.oneCell'=true):(eqGuard op t x y v u).run P w=.ok () w:=by
 cases op<;>first
  | rfl
  | (cases v<;>first
   | (simp[Value.oneCell'] at h';done)
   | (cases u<;>first|rfl|(simp at h;done)))
theorem boolT {i:TypeId}(hb:EnvOk P E)(h:z11r E i=true):P.underlying i=some .bool:=by
 unfold z11r at h;split at h
 . rename_i e he;have:=(hb.ty i e he).und;split at h
   . rename_i hd;rw[this,hd]
   . simp at h
 . simp at h
theorem ptrT {i:TypeId}(hb:EnvOk P E)(h:z1fw E i=true):∃ el,P.underlying i=some (.pointer el):=by
 unfold z1fw at h;split at h
 . rename_i e he;have:=(hb.ty i e he).und;split at h
   . rename_i el hd;exact⟨el,by rw[this,hd]⟩
   . simp at h
 . simp at h
theorem z16h {t:TypeId}(d:Nat)(x y:Bool)(hu:P.underlying t=some .bool):(Op.equalIn (d+1) t (.bool x) (.bool y)).run P w=.ok (x == y) w:=by
 simp[Op.equalIn,run_underlying hu]
theorem zyb {t:TypeId}(x y:Bool)(hu:P.underlying t=some .bool):(Op.equal t (.bool x) (.bool y)).run P w=.ok (x == y) w:=z16h 9999 x y hu
theorem z182 {t el:TypeId}(d:Nat)(x:Option Addr)(hu:P.underlying t=some (.pointer el)):(Op.equalIn (d+1) t (.pointer x) (.pointer none)).run P w=.ok x.isNone w:=by
 cases x<;>simp[Op.equalIn,run_underlying hu]
theorem z124 {t el:TypeId}(x:Option Addr)(hu:P.underlying t=some (.pointer el)):(Op.equal t (.pointer x) (.pointer none)).run P w=.ok x.isNone w:=z182 9999 x hu
theorem z1f4 {t:TypeId}(x y:Bool)(hu:P.underlying t=some .bool):(binOp .eql t (.bool x) (.bool y)).run P w=.ok (.bool (x == y)) w:=by
 simp only[binOp,Sem.run_bind,zyb x y hu,Result.andThen_ok,Sem.run_pure]
theorem z1f1 {t:TypeId}(x y:Bool)(hu:P.underlying t=some .bool):(binOp .neq t (.bool x) (.bool y)).run P w=.ok (.bool (!(x == y))) w:=by
 simp only[binOp,Sem.run_bind,zyb x y hu,Result.andThen_ok,Sem.run_pure]
theorem zpd {t el:TypeId}(x:Option Addr)(hu:P.underlying t=some (.pointer el)):(binOp .eql t (.pointer x) (.pointer none)).run P w=.ok (.bool x.isNone) w:=by
 simp only[binOp,Sem.run_bind,z124 x hu,Result.andThen_ok,Sem.run_pure]
theorem zpc {t el:TypeId}(x:Option Addr)(hu:P.underlying t=some (.pointer el)):(binOp .neq t (.pointer x) (.pointer none)).run P w=.ok (.bool (!x.isNone)) w:=by
 simp only[binOp,Sem.run_bind,z124 x hu,Result.andThen_ok,Sem.run_pure]
theorem z1og (hs:SimD c st a w S ob){r:Nat}{t:T}{x:t.den}(h:st.getD r .dead=.box t x):∃ ad,tv a r=.pointer (some ad):=by
 obtain⟨b,cs,E',fr,_,_,e,_⟩:=hs.rel r _ (zo h (by simp));exact⟨_,e⟩
theorem SimD.nb_some (hs:SimD c st a w S ob){r:Nat}{u:T}{m:Option u.den}(hz:st.getD r .dead=.ov (.nb u) m)(hm:m.isSome=true) :
 ∃ ad,tv a r=.pointer (some ad)/\SimD c (z3a st r (.box u (m.getD u.dflt))) a w S ob:=by
 obtain⟨_,hr⟩:=hs.rel r _ (zo hz (by simp));unfold VRO at hr;simp only[T.isAgg,Bool.false_eq_true,if_false] at hr;rcases hr with⟨e,_⟩|⟨y,b,cs',E',fr,bs',e1,e2,e3,e4,e5,e6⟩
 . rw[e] at hm;cases hm
 . subst e1;have e2:tv a r=.pointer (some ⟨b,0,none⟩):=by simpa using e2
   exact⟨_,e2,hs.content (w':=w) (zgh hz (by simp)) (b:=b) (by rw[e3];simp) ⟨b,cs',E',fr,bs',e3,e2,e4,e5,e6⟩ rfl (fun _ _=>rfl) hs.frame⟩
theorem SimD.nb_none (hs:SimD c st a w S ob){r:Nat}{u:T}{m:Option u.den}(hz:st.getD r .dead=.ov (.nb u) m)(hm:m.isSome=false) :
 tv a r=.pointer none/\SimD c (z3a st r (.ov (.nb u) none)) a w S ob:=by
 have hrel:=hs.rel r _ (zo hz (by simp));have hm':m=none:=by cases m<;>simp_all
 subst hm';have hrel2:=hrel;obtain⟨_,hr⟩:=hrel;unfold VRO at hr;simp only[T.isAgg,Bool.false_eq_true,if_false] at hr;rcases hr with⟨_,e,_⟩|⟨y,b,cs',E',fr,bs',e1,_⟩
 . exact⟨by simpa using e,hs.recast1 (zgh hz (by simp)) hrel2 rfl⟩
 . cases e1
theorem mapT {E:Env}{i:TypeId}(hb:EnvOk P E)(h:z1nq E i=true):∃ k v,P.underlying i=some (.map k v):=by
 unfold z1nq at h;split at h
 . rename_i e he;split at h
   . rename_i k v hd;exact⟨k,v,by rw[(hb.ty _ _ he).und,hd]⟩
   . cases h
 . cases h
theorem z183 {t k v:TypeId}(d:Nat)(x:Option Nat)(hu:P.underlying t=some (.map k v)):(Op.equalIn (d+1) t (.map x) (.map none)).run P w=.ok x.isNone w:=by
 cases x<;>simp[Op.equalIn,run_underlying hu]
theorem z125 {t k v:TypeId}(x:Option Nat)(hu:P.underlying t=some (.map k v)):(Op.equal t (.map x) (.map none)).run P w=.ok x.isNone w:=z183 9999 x hu
theorem z1h7 {t k v:TypeId}(x:Option Nat)(hu:P.underlying t=some (.map k v)):(binOp .eql t (.map x) (.map none)).run P w=.ok (.bool x.isNone) w:=by
 simp only[binOp,Sem.run_bind,z125 x hu,Result.andThen_ok,Sem.run_pure]
theorem z1h5 {t k v:TypeId}(x:Option Nat)(hu:P.underlying t=some (.map k v)):(binOp .neq t (.map x) (.map none)).run P w=.ok (.bool (!x.isNone)) w:=by
 simp only[binOp,Sem.run_bind,z125 x hu,Result.andThen_ok,Sem.run_pure]
theorem ifcT {E:Env}{i:TypeId}(hb:EnvOk P E)(h:z1nr E i=true):∃ ms,P.underlying i=some (.interface ms):=by
 unfold z1nr at h;split at h
 . rename_i e he;split at h
   . rename_i k hd;exact⟨k,by rw[(hb.ty _ _ he).und,hd]⟩
   . cases h
 . cases h
theorem z184 {t:TypeId}{ms}(d:Nat)(x:Value)(hx:z1c2 x=true)(hu:P.underlying t=some (.interface ms)):(Op.equalIn (d+1) t x .nilIface).run P w=.ok (z1cw x) w:=by
 cases x<;>first|(simp[z1c2] at hx;done)|simp[Op.equalIn,run_underlying hu,z1cw]
theorem z126 {t:TypeId}{ms}(x:Value)(hx:z1c2 x=true)(hu:P.underlying t=some (.interface ms)):(Op.equal t x .nilIface).run P w=.ok (z1cw x) w:=z184 9999 x hx hu
theorem z1h8 {t:TypeId}{ms}(x:Value)(hx:z1c2 x=true)(hu:P.underlying t=some (.interface ms)):(binOp .eql t x .nilIface).run P w=.ok (.bool (z1cw x)) w:=by
 have:=z126 (P:=P) (w:=w) x hx hu;cases x<;>first|(simp[z1c2] at hx;done)|simp only[binOp,Sem.run_bind,this,Result.andThen_ok,Sem.run_pure]
theorem z1h6 {t:TypeId}{ms}(x:Value)(hx:z1c2 x=true)(hu:P.underlying t=some (.interface ms)):(binOp .neq t x .nilIface).run P w=.ok (.bool (!(z1cw x))) w:=by
 have:=z126 (P:=P) (w:=w) x hx hu;cases x<;>first|(simp[z1c2] at hx;done)|simp only[binOp,Sem.run_bind,this,Result.andThen_ok,Sem.run_pure]
theorem z1nt {op:BinOp}{t:TypeId}{x y:Operand}{v:Value}(hv:z1c2 v=true)(hy:z1eb y=true):(eqGuard op t x y v .nilIface).run P w=.ok () w:=by
 cases y with
 | const c =>
   cases op<;>first
    | rfl
    | (cases v<;>first
     | (simp[z1c2] at hv;done)
     | rfl
     | (cases x<;>rfl)
     | (cases x<;>simp[eqGuard]))
 | _=>simp[z1eb] at hy
theorem z1gk {S:Hp}:∀ (u:T) (x:u.den) (cs l:List Value),Rd S u x cs->z101 u x=some l->cs=l:=by
 intro u
 induction u with
 | int k=>intro x cs l h e;simp only[z101,Option.some.injEq] at e;exact (show cs=_ from h).trans e
 | bool=>intro x cs l h e;simp only[z101,Option.some.injEq] at e;exact (show cs=_ from h).trans e
 | str=>intro x cs l h e;simp only[z101,Option.some.injEq] at e;exact (show cs=_ from h).trans e
 | unit=>intro x cs l h e;simp only[z101,Option.some.injEq] at e;exact (show cs=_ from h).trans e
 | pair a b iha ihb =>
   intro x cs l h e;obtain⟨c1,c2,rfl,h1,h2⟩:=h;simp only[z101] at e;split at e
   . rename_i l1 l2 e1 e2;rw[iha _ _ _ h1 e1,ihb _ _ _ h2 e2];exact Option.some.inj e
   . cases e
 | _=>intro x cs l h e;simp[z101] at e
theorem z1rd {S:Hp}{u:T}{x:u.den}{v v':Value}(h:VR S u x v)(e:valD u x=some v'):v=v':=by
 unfold valD at e;split at e
 . rename_i l ha hl;obtain⟨cs,e1,h2⟩:=VR.agg_inv ha h;have:=z1gk _ _ _ _ h2 hl;subst e1;rw[<- Option.some.inj e,<- this]
 . rename_i y ha hl;have h':Rd S u x [v]:=by
    unfold VR at h;rw[if_neg (by simp[ha])] at h;exact h
   have:=z1gk _ _ _ _ h' hl;rw[<- Option.some.inj e];exact (List.cons.inj this).1
 . cases e
theorem z1l1 {t:TypeId} {x:Operand} (ho:o.op=.makeInterface t x) (h:z11 E (z38 E o) st fp=some ((),st',fp')) (hb:Base P E c) (hs:SimD c st a w S ob):Good P c o a w st':=by
 simp only[z38,ho] at h;obtain⟨e,he,h⟩:=z3l h;obtain⟨A,fp1,h1,hA,hAo,hAd,hr⟩:=z13 h hs (hb.globS hs);split at h1
 . exact (z6 h1).elim
 . rename_i hd;split at h1
   . rename_i u z;split at h1
     . rename_i v hv;have ev:a.eval x=v:=z1rd hA.1 hv;have hu:=(hb.env.ty _ _ he).und;refine zb (v:=.iface t v) (w':=w) ?_ (zl h1 hb hs (by simp[VR,T.isAgg,Rd,Value.oneCell']));simp only[execOp,ho,ev];cases hdd:e.desc<;>first
        | (exact absurd hdd (hd _))
        | (simp[Instr.makeInterface,run_underlying (hu.trans (congrArg some hdd))])
     . exact (z6 h1).elim
   . exact (z6 h1).elim
theorem z1qd {op:BinOp} {xT yT:TypeId} {x y:Operand} (ho:o.op=.binOp op xT x y yT) (h:z11 E (z38 E o) st fp=some ((),st',fp')) (hb:Base P E c) (hs:SimD c st a w S ob) :
 Good P c o a w st':=by
 simp only[z38,ho,z1r5] at h;obtain⟨A,fp1,h1,hA,hAo,hAd,hr⟩:=z13 h hs (hb.globS hs);obtain⟨B,fp2,h2,hB,hBo,hBd,hr2⟩:=z13 h1 hs (hb.globS hs);clear h h1;have hrun:∀ v,a.eval x ≠ .nilIface->(a.eval x).oneCell'=true->(binOp op xT (a.eval x) (a.eval y)).run P w=.ok v w->(execOp a.eval o).run P w=.ok (.value v) w:=by
  intro v h1 h2 h3;simp[execOp,ho,z1i8 (P:=P) (w:=w) (.inl h1) h2,h3]
 split at h2
 . -- integers
   rename_i k m k' n;have ex:a.eval x=.int k m:=hA.1.int_inv;have ey:a.eval y=.int k' n:=hB.1.int_inv;obtain⟨t',z,v,fp3,h,hv,hr'⟩:=z1la (P:=P) (w:=w) (t:=xT) h2;exact zb (hrun v (by simp[ex]) (by simp[ex,Value.oneCell']) (by rw[ex,ey];exact hr')) (zl h hb hs (hv S))
 . rename_i s u;have ex:a.eval x=.string ⟨⟨s⟩⟩:=hA.1.str_inv;have ey:a.eval y=.string ⟨⟨u⟩⟩:=hB.1.str_inv;obtain⟨t',z,v,fp3,h,hv,hr'⟩:=z1kg (P:=P) (w:=w) (t:=xT) h2;exact zb (hrun v (by simp[ex]) (by simp[ex,Value.oneCell']) (by rw[ex,ey];exact hr')) (zl h hb hs (hv S))
 . rename_i s u;have ex:a.eval x=.bool s:=hA.1.bool_inv;have ey:a.eval y=.bool u:=hB.1.bool_inv;split at h2
   . rename_i hbt;have hu:=boolT hb.env hbt;cases op<;>simp only[z1oh] at h2<;>(try exact (z6 h2).elim)
     . exact zb (hrun (.bool (s == u)) (by simp[ex]) (by simp[ex,Value.oneCell']) (by rw[ex,ey];exact z1f4 s u hu)) (zl (by assumption) hb hs VR.bool)
     . exact zb (hrun (.bool (!(s == u))) (by simp[ex]) (by simp[ex,Value.oneCell']) (by rw[ex,ey];exact z1f1 s u hu)) (zl (by assumption) hb hs VR.bool)
   . exact (z6 (by assumption)).elim
 . rename_i r;have ey:a.eval y=.pointer none:=hB.1.opq_inv;obtain⟨fp3,h3⟩:=z16 h2;clear h2;split at h3
   . rename_i t z hz;obtain⟨ad,hv⟩:=z1og hs hz;have ex:a.eval x=.pointer (some ad):=by rw[hA.1,hv]
     split at h3
     . rename_i hpt;obtain⟨el,hu⟩:=ptrT hb.env hpt;cases op<;>simp only[znl] at h3<;>(try exact (z6 h3).elim)
       . exact zb (hrun (.bool false) (by simp[ex]) (by simp[ex,Value.oneCell']) (by rw[ex,ey];exact zpd _ hu)) (zl (by assumption) hb hs VR.bool)
       . exact zb (hrun (.bool true) (by simp[ex]) (by simp[ex,Value.oneCell']) (by rw[ex,ey];exact zpc _ hu)) (zl (by assumption) hb hs VR.bool)
     . exact (z6 (by assumption)).elim
   . rename_i t z hz;split at h3
     . rename_i hpt;obtain⟨el,hu⟩:=ptrT hb.env hpt;split at h3
       . rename_i u m;have hlt:=zgh hz (by simp);rcases zba h3 with⟨hm,h4⟩|⟨hm,h4⟩
         . obtain⟨_,fp4,h5⟩:=z22 h4;obtain⟨ad,hv,hs1⟩:=hs.nb_some hz hm;have ex:a.eval x=.pointer (some ad):=by rw[hA.1,hv]
           cases op<;>simp only[znl] at h5<;>(try exact (z6 h5).elim)
           . exact zb (hrun (.bool false) (by simp[ex]) (by simp[ex,Value.oneCell']) (by rw[ex,ey];exact zpd _ hu)) (zl h5 hb hs1 VR.bool)
           . exact zb (hrun (.bool true) (by simp[ex]) (by simp[ex,Value.oneCell']) (by rw[ex,ey];exact zpc _ hu)) (zl h5 hb hs1 VR.bool)
         . obtain⟨_,fp4,h5⟩:=z22 h4;obtain⟨fp5,h6⟩:=z6d h5;obtain⟨hv,hs1⟩:=hs.nb_none hz hm;obtain⟨S',t1,z1,hS,_,_,hs2⟩:=hs1.retire (r:=r) (x:=.ov (.nb u) none) (y:=.v .opq (.pointer none)) (z6y _ _ _ hlt) rfl;have ex:a.eval x=.pointer none:=by rw[hA.1,hv]
           cases op<;>simp only[znl] at h6<;>(try exact (z6 h6).elim)
           . exact zb (hrun (.bool true) (by simp[ex]) (by simp[ex,Value.oneCell']) (by rw[ex,ey];exact zpd _ hu)) (zl h6 hb hs2 VR.bool)
           . exact zb (hrun (.bool false) (by simp[ex]) (by simp[ex,Value.oneCell']) (by rw[ex,ey];exact zpc _ hu)) (zl h6 hb hs2 VR.bool)
       . exact (z6 (by assumption)).elim
     . exact (z6 (by assumption)).elim
   . exact (z6 (by assumption)).elim
 . have ey:a.eval y=.map none:=hB.1.opq_inv;split at h2
   . rename_i hpt;obtain⟨ki,vi,hu⟩:=mapT hb.env hpt;obtain⟨p,q,m,put,fp3,h3,o1,hm,_,_⟩:=z154 h2 hs hA;have hone:(a.eval x).oneCell'=true:=hm.one;have hne:a.eval x ≠ .nilIface:=by
      rcases hm with⟨_,e,_⟩|⟨_,_,_,_,_,_,e,_⟩<;>rw[e]<;>simp
     obtain⟨mo,ex,hmo⟩:∃ mo,a.eval x=.map mo/\mo.isNone=!m.isSome:=by
      rcases hm with⟨e1,e,_⟩|⟨_,_,_,_,e1,_,e,_⟩
      . exact⟨none,e,by rw[e1];rfl⟩
      . exact⟨_,e,by rw[e1];rfl⟩
     cases op<;>simp only[znl] at h3<;>(try exact (z6 h3).elim)
     . exact zb (hrun (.bool (!m.isSome)) hne hone (by rw[ex,ey,<- hmo];exact z1h7 _ hu)) (zl h3 hb hs VR.bool)
     . exact zb (hrun (.bool (!(!m.isSome))) hne hone (by rw[ex,ey,<- hmo];exact z1h5 _ hu)) (zl h3 hb hs VR.bool)
   . exact (z6 (by assumption)).elim
 . have ex:a.eval x=.pointer none:=hA.1.opq_inv;have ey:a.eval y=.pointer none:=hB.1.opq_inv;split at h2
   . rename_i hpt;obtain⟨el,hu⟩:=ptrT hb.env hpt;cases op<;>simp only[znl] at h2<;>(try exact (z6 h2).elim)
     . exact zb (hrun (.bool true) (by simp[ex]) (by simp[ex,Value.oneCell']) (by rw[ex,ey];exact zpd _ hu)) (zl (by assumption) hb hs VR.bool)
     . exact zb (hrun (.bool false) (by simp[ex]) (by simp[ex,Value.oneCell']) (by rw[ex,ey];exact zpc _ hu)) (zl (by assumption) hb hs VR.bool)
   . exact (z6 (by assumption)).elim
 . rename_i z;have ex:a.eval x=z:=hA.1.opq_inv;have ey:a.eval y=.nilIface:=hB.1.opq_inv;split at h2
   case h_2=>exact (z6 h2).elim
   rename_i hc;obtain⟨hc1,hc2⟩:=z7 hc;obtain⟨ms,hu⟩:=ifcT hb.env hc1;rcases zba h2 with⟨hz,h3⟩|⟨_,h3⟩
   . have hg:(eqGuard op xT x y (a.eval x) (a.eval y)).run P w=.ok () w:=by rw[ex,ey];exact z1nt hz hc2
     have hrun:∀ v,(binOp op xT (a.eval x) (a.eval y)).run P w=.ok v w->(execOp a.eval o).run P w=.ok (.value v) w:=by
      intro v h3;simp[execOp,ho,hg,h3]
     cases op<;>simp only[znl] at h3<;>(try exact (z6 h3).elim)
     . exact zb (hrun _ (by rw[ex,ey];exact z1h8 _ hz hu)) (zl h3 hb hs VR.bool)
     . exact zb (hrun _ (by rw[ex,ey];exact z1h6 _ hz hu)) (zl h3 hb hs VR.bool)
   . exact (z6 h3).elim
 . rename_i t z u z' _ _ _ _ _ _;clear hrun;unfold z1r9 at h2;split at h2
   case h_2=>exact (z6 h2).elim
   rename_i e he;split at h2
   case h_2=>exact (z6 h2).elim
   rename_i hc;obtain⟨hc1,hc2⟩:=z7 hc;obtain⟨hc1,hc3⟩:=z7 hc1;obtain⟨hc2,hc4⟩:=z7 hc2;obtain⟨hc2,hc5⟩:=z7 hc2;split at h2
   case h_2=>exact (z6 h2).elim
   rename_i y' hy';have hx':=hA.1;have hyv:=z1ie hy' hB.1;have hg:=((hb.env.ty _ _ he).cmp hc2).2;have hd:z7u t<9999:=by simpa using hc4
   have hr':=z1s5 (P:=P) (w:=w) hb.env hc3 hd hx' hyv hc5;have hgu:(eqGuard op xT x y (a.eval x) (a.eval y)).run P w=.ok () w:=by
    obtain⟨cs,e1,_⟩:=VR.agg_inv hc5 hx';obtain⟨ds,e2,_⟩:=VR.agg_inv hc5 hyv;rw[e1,e2];exact run_eqGuard_agg w op xT x y cs ds hg
   have hrun:∀ v,(binOp op xT (a.eval x) (a.eval y)).run P w=.ok v w->(execOp a.eval o).run P w=.ok (.value v) w:=by
    intro v h3;simp[execOp,ho,hgu,h3]
   cases op<;>simp only[znl] at h2<;>(try exact (z6 h2).elim)
   . exact zb (hrun _ hr'.1) (zl h2 hb hs VR.bool)
   . exact zb (hrun _ hr'.2) (zl h2 hb hs VR.bool)
 . exact (z6 (by assumption)).elim
theorem z1re {op:UnOp}{xT:TypeId}{x:Operand}(ho:o.op=.unOp op xT x)(h:z11 E (z38 E o) st fp=some ((),st',fp'))(hb:Base P E c)(hs:SimD c st a w S ob):Good P c o a w st':=by
 simp only[z38,ho,z1t9] at h;obtain⟨A,fp1,h1,hA,hAo,hAd,hr⟩:=z13 h hs (hb.globS hs);clear h;split at h1
 . rename_i b;have ex:a.eval x=.bool b:=hA.1.bool_inv;exact zb (v:=.bool (!b)) (w':=w) (by simp[execOp,ho,ex,Op.unary]) (zl h1 hb hs VR.bool)
 . rename_i k n;have ex:a.eval x=.int k n:=hA.1.int_inv;exact zb (v:=.int k (k.wrap (0 - n))) (w':=w) (by simp[execOp,ho,ex,Op.unary,Op.intArith]) (zl h1 hb hs VR.int)
 . rename_i k n;have ex:a.eval x=.int k n:=hA.1.int_inv;exact zb (v:=.int k (bitsOp .xor k (if k.signed then -1 else k.max) n)) (w':=w) (by simp[execOp,ho,ex,Op.unary,Op.intBits,bitsOp]) (zl h1 hb hs VR.int)
 . exact (z6 h1).elim
end
end
end Go.Lift
