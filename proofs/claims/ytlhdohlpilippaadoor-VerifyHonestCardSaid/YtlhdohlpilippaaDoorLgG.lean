import Derived.Test.YtlhdohlpilippaaDoorLgX
set_option linter.all false
namespace Go.Lift
noncomputable section
set_option maxHeartbeats 60000
def Good (P:Program)(c:Ctx)(o:Oper)(a:Act)(w:World)(st':List A):Prop :=
 ∀ Q,o.wp P a w (fun a' w'=>Sim c st' a' w') Q
section
variable {P:Program} {E:Env} {c:Ctx} {st st':List A} {fp fp':FP} {a:Act} {w w':World} {S:Hp} {ob:Nat->List Nat} {o:Oper}
theorem z3u {α:Type}{x u:α}(h:zn E (.ret x) st fp=some (u,st',fp')):u=x/\st'=st:=by
 have:=z3e h;simp only[Prod.mk.injEq] at this;exact⟨this.1,this.2.1⟩
theorem zb {v:Value}(hrun:(execOp a.eval o).run P w=.ok (.value v) w')(h:Sim c st' (a.put o.dst v) w'):Good P c o a w st':=by
 intro Q;simp only[Oper.wp,hrun,Oper.upon_value];exact h
theorem z9m (hrun:(execOp a.eval o).run P w=.ok .skip w')(h:Sim c st' (a.put o.dst undef) w'):Good P c o a w st':=by
 intro Q;simp only[Oper.wp,hrun,Oper.upon_skip];exact h
theorem z12a {st:List A}{r:Nat}(h:z4l st r=true):∃ y:A,st[r]?=some y/\y.own=true:=by
 unfold z4l at h;split at h
 . rename_i t xs hy;exact⟨_,zm hy (by simp),rfl⟩
 . rename_i t xs hy;exact⟨_,zm hy (by simp),rfl⟩
 . rename_i t xs hy;exact⟨_,zm hy (by simp),rfl⟩
 . rename_i hy;exact⟨_,zm hy (by simp),rfl⟩
 . rename_i t xs hy;exact⟨_,zm hy (by simp),rfl⟩
 . rename_i xs hy;exact⟨_,zm hy (by simp),rfl⟩
 . simp at h
theorem z2i {t:Nat}{x:A}(h:z87 E st t x=true):t<st.length/\t∉E.lent/\∀ r∈x.refs,r≠t/\∃ y:A,st[r]?=some y/\y.own=true:=by
 unfold z87 at h;obtain⟨h1,h2⟩:=z7 h;obtain⟨h1,h3⟩:=z7 h1;refine⟨by simpa using h1,by simpa using h3,fun r hr=>?_⟩;have one:∀ s,r=s->z1i (!(Nat.beq s t)) (z4l st s)=true->r≠t/\∃ y:A,st[r]?=some y/\y.own=true:=by
  intro s e h2;subst e;obtain⟨h4,h5⟩:=z7 h2;exact⟨by intro e;subst e;simp[Nat.beq_refl] at h4,z12a h5⟩
 cases x<;>simp only[A.refs,List.mem_singleton,List.not_mem_nil] at hr
 case clo f rs =>
  simp only[zwj,List.all_eq_true] at h2;exact one r rfl (h2 r hr)
 all_goals (simp only[zwj] at h2;exact one _ hr h2)
structure Base (P:Program) (E:Env) (c:Ctx):Prop where
 env:EnvOk P E
 glob:GlobOk E.glob c.S0
 lent:E.lent=c.lent.map Prod.fst
theorem Base.globS (hb:Base P E c)(hs:SimD c st a w S ob):GlobOk E.glob S:=hb.glob.mono hs.mono
theorem zop {α:Type}{r:α×List A×FP}{k:Cmd α}{t:Nat}{x:A}{v:Value}{o':List Nat}(h:zn E (.set t x k) st fp=some r)(hb:Base P E c)(hs:SimD c st a w S ob)
 (hx:ARel (hp w) S (tv a) x v o') (ho:∀ b∈o',(∀ i,b∉ob i)/\S b=none/\(c.B0 b\/c.w0.heap.size<=b)) (hnd:o'.Nodup:=by simp) :
 ∃ fp',zn E k (z5p st t x) fp'=some r/\SimD c (z5p st t x) (a.put (some t) v) w S (fun i=>if i=t then o' else ob i):=by
 obtain⟨hok,fp',h'⟩:=z4a h;obtain⟨h1,h2,h3⟩:=z2i hok;refine⟨fp',h',hs.put h1 (fun p hp' e=>h2 ?_) hx h3 (fun b hb'=>⟨fun i _=>(ho b hb').1 i,(ho b hb').2⟩) hnd⟩;rw[hb.lent,List.mem_map];exact⟨p,hp',e⟩
theorem z11 {d:Option Nat}{x:A}{v:Value}{o':List Nat}{u:Unit}(h:zn E (lay d x) st fp=some (u,st',fp'))(hb:Base P E c)(hs:SimD c st a w S ob)
 (hx:ARel (hp w) S (tv a) x v o') (ho:∀ b∈o',(∀ i,b∉ob i)/\S b=none/\(c.B0 b\/c.w0.heap.size<=b)) (hnd:o'.Nodup:=by simp):Sim c st' (a.put d v) w:=by
 cases d with
 | none =>
   simp only[lay] at h;obtain rfl:=(z3u h).2;exact⟨S,ob,hs⟩
 | some t =>
   simp only[lay] at h;obtain⟨fp'',h',hs'⟩:=zop h hb hs hx ho hnd;obtain rfl:=(z3u h').2;exact⟨S,_,hs'⟩
theorem zk {d:Option Nat}{t:T}{x:t.den}{v:Value}{u:Unit}(h:zn E (lay d (.v t x)) st fp=some (u,st',fp'))(hb:Base P E c)(hs:SimD c st a w S ob)
 (hx:VR S t x v):Sim c st' (a.put d v) w:=z11 h hb hs (o':=[]) ⟨hx,rfl⟩ (fun b e=>by cases e)
theorem zza {x:Operand} (ho:o.op=.move x) (h:zn E (z1x E o) st fp=some ((),st',fp')) (hb:Base P E c) (hs:SimD c st a w S ob):Good P c o a w st':=by
 simp only[z1x,ho] at h;split at h
 . obtain⟨A,fp1,h1,hA,hAo,hAd,hr⟩:=zw h hs (hb.globS hs);clear h;split at h1
   . rename_i r;obtain⟨fp2,h2⟩:=zy h1;split at h2
     . rename_i t xs hy;obtain⟨fp3,h3⟩:=z3k h2;obtain⟨S',t1,z1,hS,e1,hv,hs'⟩:=hs.retire (zm hy (by simp)) (y:=.v (.sl t) xs) rfl;cases e1;refine zb (v:=a.eval x) (w':=w) (by simp[execOp,ho]) ?_;exact z11 h3 hb hs' (o':=[]) ⟨by rw[hA.1];exact hv,rfl⟩ (fun b e=>by cases e)
     . refine zb (v:=a.eval x) (w':=w) (by simp[execOp,ho]) ?_;exact z11 h2 hb hs hA (fun b e=>by cases e)
   . refine zb (v:=a.eval x) (w':=w) (by simp[execOp,ho]) ?_;exact z11 h1 hb hs hA (fun b e=>by cases e)
 . obtain⟨A,fp1,h,hA,hAo,hAd,hr⟩:=zw h hs (hb.globS hs);refine zb (v:=a.eval x) (w':=w) (by simp[execOp,ho]) ?_;exact z11 h hb hs hA (fun b e=>by cases e)
theorem zyq {x y z:Operand}(ho:o.op=.pick x y z)(h:zn E (z1x E o) st fp=some ((),st',fp'))(hb:Base P E c)(hs:SimD c st a w S ob):Good P c o a w st':=by
 simp only[z1x,ho,zyr] at h;obtain⟨A,fp1,h1,hA,hAo,hAd,hr⟩:=zw h hs (hb.globS hs);clear h;split at h1
 . rename_i b;have hx:a.eval x=.bool b:=hA.1.bool_inv;rcases z5y h1 with⟨rfl,h⟩|⟨rfl,h⟩
   . obtain⟨B,fp2,h,hB,hBo,hBd,hr2⟩:=zw h hs (hb.globS hs);exact zb (v:=a.eval y) (w':=w) (by simp[execOp,ho,hx,asBool]) (z11 h hb hs hB (fun b e=>by cases e))
   . obtain⟨B,fp2,h,hB,hBo,hBd,hr2⟩:=zw h hs (hb.globS hs);exact zb (v:=a.eval z) (w':=w) (by simp[execOp,ho,hx,asBool]) (z11 h hb hs hB (fun b e=>by cases e))
 . exact (z6 h1).elim
theorem zwy {op:BinOp}{k k':IntKind}{m n:Int}{d:Option Nat}{t:TypeId}{u:Unit}(h:zn E (zvj op k m k' n d) st fp=some (u,st',fp')) :
 ∃ (t':T) (x:t'.den) (v:Value) (fp1:FP),zn E (lay d (.v t' x)) st fp1=some (u,st',fp')/\(∀ S,VR S t' x v)/\(binOp op t (.int k m) (.int k' n)).run P w=.ok v w:=by
 by_cases hs1:op=.shl
 . subst hs1;obtain⟨hc,h⟩:=zr h;have hc:0<=n:=by simpa using hc
   exact⟨_,_,_,_,h,fun _=>VR.int,by simp[binOp,Op.shift,zkq,show ¬ n<0 by omega]⟩
 by_cases hs2:op=.shr
 . subst hs2;obtain⟨hc,h⟩:=zr h;have hc:0<=n:=by simpa using hc
   exact⟨_,_,_,_,h,fun _=>VR.int,by simp[binOp,Op.shift,zaw,show ¬ n<0 by omega]⟩
 by_cases hk:k=k'
 . subst hk;have quo:∀ {v:Int} {rr:Unit×List A×FP},zn E (.test (n == 0) .fail (lay d (.v (.int k) v))) st fp=some rr->¬ n=0/\zn E (lay d (.v (.int k) v)) st fp=some rr:=by
    intro v rr h;rcases z5y h with⟨_,h⟩|⟨hc,h⟩
    . exact (z6 h).elim
    . exact⟨by simpa using hc,h⟩
   cases op<;>simp only[zvj,decide_true,not_true_eq_false] at h hs1 hs2<;>(try exact (z6 h).elim)
   case quo=>obtain⟨h0,h⟩:=quo h;exact⟨_,_,_,_,h,fun _=>VR.int,by simp[binOp,Op.intDiv,h0]⟩
   case rem=>obtain⟨h0,h⟩:=quo h;exact⟨_,_,_,_,h,fun _=>VR.int,by simp[binOp,Op.intDiv,h0]⟩
   case add=>exact⟨_,_,_,_,h,fun _=>VR.int,by simp[binOp,Op.intArith]⟩
   case sub=>exact⟨_,_,_,_,h,fun _=>VR.int,by simp[binOp,Op.intArith]⟩
   case mul=>cases k<;>exact⟨_,_,_,_,h,fun _=>VR.int,by simp[binOp,Op.intArith,Int.mul_comm]⟩
   case and=>exact⟨_,_,_,_,h,fun _=>VR.int,by simp[binOp,Op.intBits,zu]⟩
   case or=>exact⟨_,_,_,_,h,fun _=>VR.int,by simp[binOp,Op.intBits,zu]⟩
   case xor=>exact⟨_,_,_,_,h,fun _=>VR.int,by simp[binOp,Op.intBits,zu]⟩
   case andNot=>exact⟨_,_,_,_,h,fun _=>VR.int,by simp[binOp,Op.intBits,zu]⟩
   all_goals exact⟨_,_,_,_,h,fun _=>VR.bool,by simp[binOp,Op.intCmp]⟩
 . cases op<;>simp only[zvj,hk,decide_false,not_true_eq_false] at h hs1 hs2<;>exact (z6 h).elim
theorem zwb {op:BinOp}{x y:List UInt8}{d:Option Nat}{t:TypeId}{u:Unit}(h:zn E (zy7 op x y d) st fp=some (u,st',fp')) :
 ∃ (t':T) (z:t'.den) (v:Value) (fp1:FP),zn E (lay d (.v t' z)) st fp1=some (u,st',fp')/\(∀ S,VR S t' z v)/\(binOp op t (.string ⟨⟨x⟩⟩) (.string ⟨⟨y⟩⟩)).run P w=.ok v w:=by
 cases op<;>simp only[zy7] at h<;>(try exact (z6 h).elim)
 case add =>
  obtain⟨hc,h⟩:=zr h;have hc:x.length+y.length<=9223372036854775807:=by simpa using hc
  refine⟨_,_,.string ⟨⟨x++y⟩⟩,_,h,fun _=>VR.str,?_⟩;have e1:(⟨⟨x⟩⟩:ByteArray).size=x.length:=by simp[ByteArray.size]
  have e2:(⟨⟨y⟩⟩:ByteArray).size=y.length:=by simp[ByteArray.size]
  have e3:(⟨⟨x⟩⟩++⟨⟨y⟩⟩:ByteArray)=⟨⟨x++y⟩⟩:=by
   apply ByteArray.ext;simp[ByteArray.data_append]
  have e4:¬ IntKind.i64.max<((x.length+y.length:Nat):Int):=by
   have:IntKind.i64.max=9223372036854775807:=by decide
   rw[this];omega
  simp only[binOp,Op.stringOp,e1,e2,e3];rw[if_neg (by simpa using e4)];rfl
 all_goals exact⟨_,_,_,_,h,fun _=>VR.bool,by simp[binOp,Op.stringOp,ByteArray.toList_eq]⟩
theorem zti {op:BinOp} {t:TypeId} {x y:Operand} {v u:Value} (h:v ≠ .nilIface\/u ≠ .nilIface) (h':v.oneCell'=true):(eqGuard op t x y v u).run P w=.ok () w:=by
 cases op<;>first
  | rfl
  | (cases v<;>first
   | (simp[Value.oneCell'] at h';done)
   | (cases u<;>first|rfl|(simp at h;done)))
theorem boolT {i:TypeId}(hb:EnvOk P E)(h:zg4 E i=true):P.underlying i=some .bool:=by
 unfold zg4 at h;split at h
 . rename_i e he;have:=(hb.ty i e he).und;split at h
   . rename_i hd;rw[this,hd]
   . simp at h
 . simp at h
theorem ptrT {i:TypeId}(hb:EnvOk P E)(h:zr2 E i=true):∃ el,P.underlying i=some (.pointer el):=by
 unfold zr2 at h;split at h
 . rename_i e he;have:=(hb.ty i e he).und;split at h
   . rename_i el hd;exact⟨el,by rw[this,hd]⟩
   . simp at h
 . simp at h
theorem zjx {t:TypeId}(d:Nat)(x y:Bool)(hu:P.underlying t=some .bool):(Op.equalIn (d+1) t (.bool x) (.bool y)).run P w=.ok (x == y) w:=by
 simp[Op.equalIn,run_underlying hu]
theorem zf6 {t:TypeId}(x y:Bool)(hu:P.underlying t=some .bool):(Op.equal t (.bool x) (.bool y)).run P w=.ok (x == y) w:=zjx 9999 x y hu
theorem zl4 {t el:TypeId}(d:Nat)(x:Option Addr)(hu:P.underlying t=some (.pointer el)):(Op.equalIn (d+1) t (.pointer x) (.pointer none)).run P w=.ok x.isNone w:=by
 cases x<;>simp[Op.equalIn,run_underlying hu]
theorem zgr {t el:TypeId}(x:Option Addr)(hu:P.underlying t=some (.pointer el)):(Op.equal t (.pointer x) (.pointer none)).run P w=.ok x.isNone w:=zl4 9999 x hu
theorem zqk {t:TypeId}(x y:Bool)(hu:P.underlying t=some .bool):(binOp .eql t (.bool x) (.bool y)).run P w=.ok (.bool (x == y)) w:=by
 simp only[binOp,Sem.run_bind,zf6 x y hu,Result.andThen_ok,Sem.run_pure]
theorem zqh {t:TypeId}(x y:Bool)(hu:P.underlying t=some .bool):(binOp .neq t (.bool x) (.bool y)).run P w=.ok (.bool (!(x == y))) w:=by
 simp only[binOp,Sem.run_bind,zf6 x y hu,Result.andThen_ok,Sem.run_pure]
theorem zbw {t el:TypeId}(x:Option Addr)(hu:P.underlying t=some (.pointer el)):(binOp .eql t (.pointer x) (.pointer none)).run P w=.ok (.bool x.isNone) w:=by
 simp only[binOp,Sem.run_bind,zgr x hu,Result.andThen_ok,Sem.run_pure]
theorem zbv {t el:TypeId}(x:Option Addr)(hu:P.underlying t=some (.pointer el)):(binOp .neq t (.pointer x) (.pointer none)).run P w=.ok (.bool (!x.isNone)) w:=by
 simp only[binOp,Sem.run_bind,zgr x hu,Result.andThen_ok,Sem.run_pure]
theorem z10p (hs:SimD c st a w S ob){r:Nat}{t:T}{x:t.den}(h:st.getD r .dead=.box t x):∃ ad,tv a r=.pointer (some ad):=by
 obtain⟨b,cs,E',fr,_,_,e,_⟩:=hs.rel r _ (zm h (by simp));exact⟨_,e⟩
theorem SimD.nb_some (hs:SimD c st a w S ob){r:Nat}{u:T}{m:Option u.den}(hz:st.getD r .dead=.ov (.nb u) m)(hm:m.isSome=true) :
 ∃ ad,tv a r=.pointer (some ad)/\SimD c (z1j st r (.box u (m.getD u.dflt))) a w S ob:=by
 obtain⟨_,hr⟩:=hs.rel r _ (zm hz (by simp));unfold VRO at hr;simp only[T.isAgg,Bool.false_eq_true,if_false] at hr;rcases hr with⟨e,_⟩|⟨y,b,cs',E',fr,bs',e1,e2,e3,e4,e5,e6⟩
 . rw[e] at hm;cases hm
 . subst e1;have e2:tv a r=.pointer (some ⟨b,0,none⟩):=by simpa using e2
   exact⟨_,e2,hs.content (w':=w) (z89 hz (by simp)) (b:=b) (by rw[e3];simp) ⟨b,cs',E',fr,bs',e3,e2,e4,e5,e6⟩ rfl (fun _ _=>rfl) hs.frame⟩
theorem SimD.nb_none (hs:SimD c st a w S ob){r:Nat}{u:T}{m:Option u.den}(hz:st.getD r .dead=.ov (.nb u) m)(hm:m.isSome=false) :
 tv a r=.pointer none/\SimD c (z1j st r (.ov (.nb u) none)) a w S ob:=by
 have hrel:=hs.rel r _ (zm hz (by simp));have hm':m=none:=by cases m<;>simp_all
 subst hm';have hrel2:=hrel;obtain⟨_,hr⟩:=hrel;unfold VRO at hr;simp only[T.isAgg,Bool.false_eq_true,if_false] at hr;rcases hr with⟨_,e,_⟩|⟨y,b,cs',E',fr,bs',e1,_⟩
 . exact⟨by simpa using e,hs.recast1 (z89 hz (by simp)) hrel2 rfl⟩
 . cases e1
theorem mapT {E:Env}{i:TypeId}(hb:EnvOk P E)(h:zzu E i=true):∃ k v,P.underlying i=some (.map k v):=by
 unfold zzu at h;split at h
 . rename_i e he;split at h
   . rename_i k v hd;exact⟨k,v,by rw[(hb.ty _ _ he).und,hd]⟩
   . cases h
 . cases h
theorem zl5 {t k v:TypeId}(d:Nat)(x:Option Nat)(hu:P.underlying t=some (.map k v)):(Op.equalIn (d+1) t (.map x) (.map none)).run P w=.ok x.isNone w:=by
 cases x<;>simp[Op.equalIn,run_underlying hu]
theorem zgs {t k v:TypeId}(x:Option Nat)(hu:P.underlying t=some (.map k v)):(Op.equal t (.map x) (.map none)).run P w=.ok x.isNone w:=zl5 9999 x hu
theorem zsp {t k v:TypeId}(x:Option Nat)(hu:P.underlying t=some (.map k v)):(binOp .eql t (.map x) (.map none)).run P w=.ok (.bool x.isNone) w:=by
 simp only[binOp,Sem.run_bind,zgs x hu,Result.andThen_ok,Sem.run_pure]
theorem zsn {t k v:TypeId}(x:Option Nat)(hu:P.underlying t=some (.map k v)):(binOp .neq t (.map x) (.map none)).run P w=.ok (.bool (!x.isNone)) w:=by
 simp only[binOp,Sem.run_bind,zgs x hu,Result.andThen_ok,Sem.run_pure]
theorem ifcT {E:Env}{i:TypeId}(hb:EnvOk P E)(h:zzv E i=true):∃ ms,P.underlying i=some (.interface ms):=by
 unfold zzv at h;split at h
 . rename_i e he;split at h
   . rename_i k hd;exact⟨k,by rw[(hb.ty _ _ he).und,hd]⟩
   . cases h
 . cases h
theorem zl6 {t:TypeId}{ms}(d:Nat)(x:Value)(hx:zmx x=true)(hu:P.underlying t=some (.interface ms)):(Op.equalIn (d+1) t x .nilIface).run P w=.ok (znz x) w:=by
 cases x<;>first|(simp[zmx] at hx;done)|simp[Op.equalIn,run_underlying hu,znz]
theorem zgt {t:TypeId}{ms}(x:Value)(hx:zmx x=true)(hu:P.underlying t=some (.interface ms)):(Op.equal t x .nilIface).run P w=.ok (znz x) w:=zl6 9999 x hx hu
theorem zsq {t:TypeId}{ms}(x:Value)(hx:zmx x=true)(hu:P.underlying t=some (.interface ms)):(binOp .eql t x .nilIface).run P w=.ok (.bool (znz x)) w:=by
 have:=zgt (P:=P) (w:=w) x hx hu;cases x<;>first|(simp[zmx] at hx;done)|simp only[binOp,Sem.run_bind,this,Result.andThen_ok,Sem.run_pure]
theorem zso {t:TypeId}{ms}(x:Value)(hx:zmx x=true)(hu:P.underlying t=some (.interface ms)):(binOp .neq t x .nilIface).run P w=.ok (.bool (!(znz x))) w:=by
 have:=zgt (P:=P) (w:=w) x hx hu;cases x<;>first|(simp[zmx] at hx;done)|simp only[binOp,Sem.run_bind,this,Result.andThen_ok,Sem.run_pure]
theorem zzx {op:BinOp}{t:TypeId}{x y:Operand}{v:Value}(hv:zmx v=true)(hy:zp3 y=true):(eqGuard op t x y v .nilIface).run P w=.ok () w:=by
 cases y with
 | const c =>
   cases op<;>first
    | rfl
    | (cases v<;>first
     | (simp[zmx] at hv;done)
     | rfl
     | (cases x<;>rfl)
     | (cases x<;>simp[eqGuard]))
 | _=>simp[zp3] at hy
theorem zrr {S:Hp}:∀ (u:T) (x:u.den) (cs l:List Value),Rd S u x cs->zfj u x=some l->cs=l:=by
 intro u
 induction u with
 | int k=>intro x cs l h e;simp only[zfj,Option.some.injEq] at e;exact (show cs=_ from h).trans e
 | bool=>intro x cs l h e;simp only[zfj,Option.some.injEq] at e;exact (show cs=_ from h).trans e
 | str=>intro x cs l h e;simp only[zfj,Option.some.injEq] at e;exact (show cs=_ from h).trans e
 | unit=>intro x cs l h e;simp only[zfj,Option.some.injEq] at e;exact (show cs=_ from h).trans e
 | pair a b iha ihb =>
   intro x cs l h e;obtain⟨c1,c2,rfl,h1,h2⟩:=h;simp only[zfj] at e;split at e
   . rename_i l1 l2 e1 e2;rw[iha _ _ _ h1 e1,ihb _ _ _ h2 e2];exact Option.some.inj e
   . cases e
 | _=>intro x cs l h e;simp[zfj] at e
theorem z14q {S:Hp}{u:T}{x:u.den}{v v':Value}(h:VR S u x v)(e:valD u x=some v'):v=v':=by
 unfold valD at e;split at e
 . rename_i l ha hl;obtain⟨cs,e1,h2⟩:=VR.agg_inv ha h;have:=zrr _ _ _ _ h2 hl;subst e1;rw[<- Option.some.inj e,<- this]
 . rename_i y ha hl;have h':Rd S u x [v]:=by
    unfold VR at h;rw[if_neg (by simp[ha])] at h;exact h
   have:=zrr _ _ _ _ h' hl;rw[<- Option.some.inj e];exact (List.cons.inj this).1
 . cases e
theorem zwr {t:TypeId} {x:Operand} (ho:o.op=.makeInterface t x) (h:zn E (z1x E o) st fp=some ((),st',fp')) (hb:Base P E c) (hs:SimD c st a w S ob):Good P c o a w st':=by
 simp only[z1x,ho] at h;obtain⟨e,he,h⟩:=z25 h;obtain⟨A,fp1,h1,hA,hAo,hAd,hr⟩:=zw h hs (hb.globS hs);split at h1
 . exact (z6 h1).elim
 . rename_i hd;split at h1
   . rename_i u z;split at h1
     . rename_i v hv;have ev:a.eval x=v:=z14q hA.1 hv;have hu:=(hb.env.ty _ _ he).und;refine zb (v:=.iface t v) (w':=w) ?_ (zk h1 hb hs (by simp[VR,T.isAgg,Rd,Value.oneCell']));simp only[execOp,ho,ev];cases hdd:e.desc<;>first
        | (exact absurd hdd (hd _))
        | (simp[Instr.makeInterface,run_underlying (hu.trans (congrArg some hdd))])
     . exact (z6 h1).elim
   . exact (z6 h1).elim
theorem z139 {op:BinOp} {xT yT:TypeId} {x y:Operand} (ho:o.op=.binOp op xT x y yT) (h:zn E (z1x E o) st fp=some ((),st',fp')) (hb:Base P E c) (hs:SimD c st a w S ob) :
 Good P c o a w st':=by
 simp only[z1x,ho,z14g] at h;obtain⟨A,fp1,h1,hA,hAo,hAd,hr⟩:=zw h hs (hb.globS hs);obtain⟨B,fp2,h2,hB,hBo,hBd,hr2⟩:=zw h1 hs (hb.globS hs);clear h h1;have hrun:∀ v,a.eval x ≠ .nilIface->(a.eval x).oneCell'=true->(binOp op xT (a.eval x) (a.eval y)).run P w=.ok v w->(execOp a.eval o).run P w=.ok (.value v) w:=by
  intro v h1 h2 h3;simp[execOp,ho,zti (P:=P) (w:=w) (.inl h1) h2,h3]
 split at h2
 . -- integers
   rename_i k m k' n;have ex:a.eval x=.int k m:=hA.1.int_inv;have ey:a.eval y=.int k' n:=hB.1.int_inv;obtain⟨t',z,v,fp3,h,hv,hr'⟩:=zwy (P:=P) (w:=w) (t:=xT) h2;exact zb (hrun v (by simp[ex]) (by simp[ex,Value.oneCell']) (by rw[ex,ey];exact hr')) (zk h hb hs (hv S))
 . rename_i s u;have ex:a.eval x=.string ⟨⟨s⟩⟩:=hA.1.str_inv;have ey:a.eval y=.string ⟨⟨u⟩⟩:=hB.1.str_inv;obtain⟨t',z,v,fp3,h,hv,hr'⟩:=zwb (P:=P) (w:=w) (t:=xT) h2;exact zb (hrun v (by simp[ex]) (by simp[ex,Value.oneCell']) (by rw[ex,ey];exact hr')) (zk h hb hs (hv S))
 . rename_i s u;have ex:a.eval x=.bool s:=hA.1.bool_inv;have ey:a.eval y=.bool u:=hB.1.bool_inv;split at h2
   . rename_i hbt;have hu:=boolT hb.env hbt;cases op<;>simp only[z10q] at h2<;>(try exact (z6 h2).elim)
     . exact zb (hrun (.bool (s == u)) (by simp[ex]) (by simp[ex,Value.oneCell']) (by rw[ex,ey];exact zqk s u hu)) (zk (by assumption) hb hs VR.bool)
     . exact zb (hrun (.bool (!(s == u))) (by simp[ex]) (by simp[ex,Value.oneCell']) (by rw[ex,ey];exact zqh s u hu)) (zk (by assumption) hb hs VR.bool)
   . exact (z6 (by assumption)).elim
 . rename_i r;have ey:a.eval y=.pointer none:=hB.1.opq_inv;obtain⟨fp3,h3⟩:=zy h2;clear h2;split at h3
   . rename_i t z hz;obtain⟨ad,hv⟩:=z10p hs hz;have ex:a.eval x=.pointer (some ad):=by rw[hA.1,hv]
     split at h3
     . rename_i hpt;obtain⟨el,hu⟩:=ptrT hb.env hpt;cases op<;>simp only[za1] at h3<;>(try exact (z6 h3).elim)
       . exact zb (hrun (.bool false) (by simp[ex]) (by simp[ex,Value.oneCell']) (by rw[ex,ey];exact zbw _ hu)) (zk (by assumption) hb hs VR.bool)
       . exact zb (hrun (.bool true) (by simp[ex]) (by simp[ex,Value.oneCell']) (by rw[ex,ey];exact zbv _ hu)) (zk (by assumption) hb hs VR.bool)
     . exact (z6 (by assumption)).elim
   . rename_i t z hz;split at h3
     . rename_i hpt;obtain⟨el,hu⟩:=ptrT hb.env hpt;split at h3
       . rename_i u m;have hlt:=z89 hz (by simp);rcases z5y h3 with⟨hm,h4⟩|⟨hm,h4⟩
         . obtain⟨_,fp4,h5⟩:=z1b h4;obtain⟨ad,hv,hs1⟩:=hs.nb_some hz hm;have ex:a.eval x=.pointer (some ad):=by rw[hA.1,hv]
           cases op<;>simp only[za1] at h5<;>(try exact (z6 h5).elim)
           . exact zb (hrun (.bool false) (by simp[ex]) (by simp[ex,Value.oneCell']) (by rw[ex,ey];exact zbw _ hu)) (zk h5 hb hs1 VR.bool)
           . exact zb (hrun (.bool true) (by simp[ex]) (by simp[ex,Value.oneCell']) (by rw[ex,ey];exact zbv _ hu)) (zk h5 hb hs1 VR.bool)
         . obtain⟨_,fp4,h5⟩:=z1b h4;obtain⟨fp5,h6⟩:=z3k h5;obtain⟨hv,hs1⟩:=hs.nb_none hz hm;obtain⟨S',t1,z1,hS,_,_,hs2⟩:=hs1.retire (r:=r) (x:=.ov (.nb u) none) (y:=.v .opq (.pointer none)) (z3w _ _ _ hlt) rfl;have ex:a.eval x=.pointer none:=by rw[hA.1,hv]
           cases op<;>simp only[za1] at h6<;>(try exact (z6 h6).elim)
           . exact zb (hrun (.bool true) (by simp[ex]) (by simp[ex,Value.oneCell']) (by rw[ex,ey];exact zbw _ hu)) (zk h6 hb hs2 VR.bool)
           . exact zb (hrun (.bool false) (by simp[ex]) (by simp[ex,Value.oneCell']) (by rw[ex,ey];exact zbv _ hu)) (zk h6 hb hs2 VR.bool)
       . exact (z6 (by assumption)).elim
     . exact (z6 (by assumption)).elim
   . exact (z6 (by assumption)).elim
 . have ey:a.eval y=.map none:=hB.1.opq_inv;split at h2
   . rename_i hpt;obtain⟨ki,vi,hu⟩:=mapT hb.env hpt;obtain⟨p,q,m,put,fp3,h3,o1,hm,_,_⟩:=zi5 h2 hs hA;have hone:(a.eval x).oneCell'=true:=hm.one;have hne:a.eval x ≠ .nilIface:=by
      rcases hm with⟨_,e,_⟩|⟨_,_,_,_,_,_,e,_⟩<;>rw[e]<;>simp
     obtain⟨mo,ex,hmo⟩:∃ mo,a.eval x=.map mo/\mo.isNone=!m.isSome:=by
      rcases hm with⟨e1,e,_⟩|⟨_,_,_,_,e1,_,e,_⟩
      . exact⟨none,e,by rw[e1];rfl⟩
      . exact⟨_,e,by rw[e1];rfl⟩
     cases op<;>simp only[za1] at h3<;>(try exact (z6 h3).elim)
     . exact zb (hrun (.bool (!m.isSome)) hne hone (by rw[ex,ey,<- hmo];exact zsp _ hu)) (zk h3 hb hs VR.bool)
     . exact zb (hrun (.bool (!(!m.isSome))) hne hone (by rw[ex,ey,<- hmo];exact zsn _ hu)) (zk h3 hb hs VR.bool)
   . exact (z6 (by assumption)).elim
 . have ex:a.eval x=.pointer none:=hA.1.opq_inv;have ey:a.eval y=.pointer none:=hB.1.opq_inv;split at h2
   . rename_i hpt;obtain⟨el,hu⟩:=ptrT hb.env hpt;cases op<;>simp only[za1] at h2<;>(try exact (z6 h2).elim)
     . exact zb (hrun (.bool true) (by simp[ex]) (by simp[ex,Value.oneCell']) (by rw[ex,ey];exact zbw _ hu)) (zk (by assumption) hb hs VR.bool)
     . exact zb (hrun (.bool false) (by simp[ex]) (by simp[ex,Value.oneCell']) (by rw[ex,ey];exact zbv _ hu)) (zk (by assumption) hb hs VR.bool)
   . exact (z6 (by assumption)).elim
 . rename_i z;have ex:a.eval x=z:=hA.1.opq_inv;have ey:a.eval y=.nilIface:=hB.1.opq_inv;split at h2
   case h_2=>exact (z6 h2).elim
   rename_i hc;obtain⟨hc1,hc2⟩:=z7 hc;obtain⟨ms,hu⟩:=ifcT hb.env hc1;rcases z5y h2 with⟨hz,h3⟩|⟨_,h3⟩
   . have hg:(eqGuard op xT x y (a.eval x) (a.eval y)).run P w=.ok () w:=by rw[ex,ey];exact zzx hz hc2
     have hrun:∀ v,(binOp op xT (a.eval x) (a.eval y)).run P w=.ok v w->(execOp a.eval o).run P w=.ok (.value v) w:=by
      intro v h3;simp[execOp,ho,hg,h3]
     cases op<;>simp only[za1] at h3<;>(try exact (z6 h3).elim)
     . exact zb (hrun _ (by rw[ex,ey];exact zsq _ hz hu)) (zk h3 hb hs VR.bool)
     . exact zb (hrun _ (by rw[ex,ey];exact zso _ hz hu)) (zk h3 hb hs VR.bool)
   . exact (z6 h3).elim
 . rename_i t z u z' _ _ _ _ _ _;clear hrun;unfold z14j at h2;split at h2
   case h_2=>exact (z6 h2).elim
   rename_i e he;split at h2
   case h_2=>exact (z6 h2).elim
   rename_i hc;obtain⟨hc1,hc2⟩:=z7 hc;obtain⟨hc1,hc3⟩:=z7 hc1;obtain⟨hc2,hc4⟩:=z7 hc2;obtain⟨hc2,hc5⟩:=z7 hc2;split at h2
   case h_2=>exact (z6 h2).elim
   rename_i y' hy';have hx':=hA.1;have hyv:=ztp hy' hB.1;have hg:=((hb.env.ty _ _ he).cmp hc2).2;have hd:z4f t<9999:=by simpa using hc4
   have hr':=z15v (P:=P) (w:=w) hb.env hc3 hd hx' hyv hc5;have hgu:(eqGuard op xT x y (a.eval x) (a.eval y)).run P w=.ok () w:=by
    obtain⟨cs,e1,_⟩:=VR.agg_inv hc5 hx';obtain⟨ds,e2,_⟩:=VR.agg_inv hc5 hyv;rw[e1,e2];exact run_eqGuard_agg w op xT x y cs ds hg
   have hrun:∀ v,(binOp op xT (a.eval x) (a.eval y)).run P w=.ok v w->(execOp a.eval o).run P w=.ok (.value v) w:=by
    intro v h3;simp[execOp,ho,hgu,h3]
   cases op<;>simp only[za1] at h2<;>(try exact (z6 h2).elim)
   . exact zb (hrun _ hr'.1) (zk h2 hb hs VR.bool)
   . exact zb (hrun _ hr'.2) (zk h2 hb hs VR.bool)
 . exact (z6 (by assumption)).elim
theorem z14r {op:UnOp}{xT:TypeId}{x:Operand}(ho:o.op=.unOp op xT x)(h:zn E (z1x E o) st fp=some ((),st',fp'))(hb:Base P E c)(hs:SimD c st a w S ob):Good P c o a w st':=by
 simp only[z1x,ho,z1ar] at h;obtain⟨A,fp1,h1,hA,hAo,hAd,hr⟩:=zw h hs (hb.globS hs);clear h;split at h1
 . rename_i b;have ex:a.eval x=.bool b:=hA.1.bool_inv;exact zb (v:=.bool (!b)) (w':=w) (by simp[execOp,ho,ex,Op.unary]) (zk h1 hb hs VR.bool)
 . rename_i k n;have ex:a.eval x=.int k n:=hA.1.int_inv;exact zb (v:=.int k (k.wrap (0 - n))) (w':=w) (by simp[execOp,ho,ex,Op.unary,Op.intArith]) (zk h1 hb hs VR.int)
 . rename_i k n;have ex:a.eval x=.int k n:=hA.1.int_inv;exact zb (v:=.int k (zu .xor k (if k.signed then -1 else k.max) n)) (w':=w) (by simp[execOp,ho,ex,Op.unary,Op.intBits,zu]) (zk h1 hb hs VR.int)
 . exact (z6 h1).elim
end
end
end Go.Lift
