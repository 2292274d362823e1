import Derived.Test.YtlhdohlpilippaaDoorLgD
import Derived.RangeFuncSeq
import Derived.RangeFuncLeaves
import Derived.OrdersIn
import Derived.TacticsIn
import Derived.LoopNIn
set_option linter.all false
namespace Go.Lift
noncomputable section
def zn {α:Type}(E:Env)(c:Cmd α)(st:List A)(fp:FP):Option (α×List A×FP):=c.cps E st fp fun a st fp=>some (a,st,fp)
theorem zm7 {α β:Type}(E:Env) (c:Cmd α):∀ (st:List A) (fp:FP) (K:α->List A->FP->Option β),c.cps E st fp K=(zn E c st fp).bind fun r=>K r.1 r.2.1 r.2.2:=by
 induction c with
 | ret a=>intro st fp K;rfl
 | fail=>intro st fp K;rfl
 | get t k ih=>intro st fp K;simp only[Cmd.cps,zn];rw[ih];rfl
 | set t x k ih => intro st fp K;simp only[Cmd.cps,zn];cases z87 E st t x<;>simp only[cond];· rfl
                   . rw[ih];rfl
 | cont r x k ih => intro st fp K;simp only[Cmd.cps,zn];cases Nat.blt r st.length<;>simp only[cond];· rfl
                    . rw[ih];rfl
 | retire r k ih=>intro st fp K;simp only[Cmd.cps,zn];rw[ih];rfl
 | test b x y ihx ihy => intro st fp K;simp only[Cmd.cps,zn];cases b<;>simp only[cond];· rw[ihy];rfl
                         . rw[ihx];rfl
 | call f args k ih =>
   intro st fp K;simp only[Cmd.cps,zn];cases (E.fn f args).val with
   | none=>rfl
   | some x=>simp only[Option.bind_some];rw[ih];rfl
 | guard d x y z ihx ihy ihz =>
   intro st fp K;simp only[zn,Cmd.cps];split
   . rename_i b _;cases b
     . simp only[cond];rw[ihy];rfl
     . simp only[cond];rw[ihx];rfl
   . rw[ihz];rfl
   . rfl
section
variable {E:Env} {α:Type} {st:List A} {fp:FP} {r:α×List A×FP}
theorem z3e {a:α}(h:zn E (.ret a) st fp=some r):r=(a,st,fp):=by simpa[zn,Cmd.cps] using h.symm
theorem z6 (h:zn E (.fail:Cmd α) st fp=some r):False:=by simp[zn,Cmd.cps] at h
theorem zy {t:Nat}{k:A->Cmd α}(h:zn E (.get t k) st fp=some r):∃ fp',zn E (k (st.getD t .dead)) st fp'=some r:=⟨_,h⟩
theorem z4a {t:Nat}{x:A}{k:Cmd α}(h:zn E (.set t x k) st fp=some r):z87 E st t x=true/\∃ fp',zn E k (z5p st t x) fp'=some r:=by
 simp only[zn,Cmd.cps] at h;cases hk:z87 E st t x<;>rw[hk] at h
 . simp at h
 . exact⟨rfl,_,h⟩
theorem z1b {t:Nat}{x:A}{k:Cmd α}(h:zn E (.cont t x k) st fp=some r):t<st.length/\∃ fp',zn E k (z1j st t x) fp'=some r:=by
 simp only[zn,Cmd.cps] at h;cases hk:Nat.blt t st.length<;>rw[hk] at h
 . simp at h
 . exact⟨by simpa using hk,_,h⟩
theorem z3k {t:Nat}{k:Cmd α}(h:zn E (.retire t k) st fp=some r):∃ fp',zn E k (z97 st t) fp'=some r:=⟨_,h⟩
theorem z5y {b:Bool}{x y:Cmd α}(h:zn E (.test b x y) st fp=some r):(b=true/\zn E x st fp=some r)\/(b=false/\zn E y st fp=some r):=by
 simp only[zn,Cmd.cps] at h;cases b
 . exact .inr ⟨rfl,h⟩
 . exact .inl ⟨rfl,h⟩
theorem zr {b:Bool}{x:Cmd α}(h:zn E (.test b x .fail) st fp=some r):b=true/\zn E x st fp=some r:=by
 rcases z5y h with h|⟨_,h⟩
 . exact h
 . exact (z6 h).elim
theorem z5z {f:FuncId}{args:List A}{k:A->List A->Cmd α}(h:zn E (.call f args k) st fp=some r) :
 ∃ x,(E.fn f args).val=some x/\zn E (k ((E.fn f args).out x).1 ((E.fn f args).out x).2) st fp=some r:=by
 simp only[zn,Cmd.cps] at h;cases hv:(E.fn f args).val with
 | none=>rw[hv] at h;simp at h
 | some x=>rw[hv] at h;exact⟨x,rfl,h⟩
theorem zbu {st:List A}{d:Nat}{x:A}(h:st.getD d .dead=x)(hx:x ≠ .dead):st.set d x=st:=by
 have hd:st[d]?=some x:=by
  simp only[List.getD] at h;cases hs:st[d]? with
  | none=>simp[hs] at h;exact absurd h.symm hx
  | some y=>simp[hs] at h;rw[h]
 apply List.ext_getElem?;intro i;by_cases hi:d=i
 . subst hi;have:d<st.length:=by
    rcases Nat.lt_or_ge d st.length with h|h
    . exact h
    . rw[List.getElem?_eq_none h] at hd;cases hd
   rw[List.getElem?_set_self this,hd]
 . rw[List.getElem?_set_ne hi]
theorem zjg {d:Nat}{x y z:Cmd α}(h:zn E (.guard d x y z) st fp=some r) :
 (st.getD d .dead=.v .bool true/\∃ fp',zn E x st fp'=some r)\/(st.getD d .dead=.v .bool false/\∃ fp',zn E y st fp'=some r)\/(st.getD d .dead=.tup []/\∃ fp',zn E z st fp'=some r):=by
 simp only[zn,Cmd.cps] at h;split at h
 . rename_i b hb;cases b
   . simp only[cond] at h;rw[zbu hb (by simp)] at h;exact .inr (.inl ⟨hb,_,h⟩)
   . simp only[cond] at h;rw[zbu hb (by simp)] at h;exact .inl ⟨hb,_,h⟩
 . rename_i hb;exact .inr (.inr ⟨hb,_,h⟩)
 . cases h
end
def z10x:TypeDesc->Bool
 | .struct _ | .array ..=>true
 | _=>false
def z1a5:Hp:=fun _=>none
def zc:(t:T)->t.den->List Value
 | .int k,x=>[.int k x]
 | .bool,x=>[.bool x]
 | .str,x=>[.string ⟨⟨x⟩⟩]
 | .opq,x=>[x]
 | .unit,_=>[]
 | .pair a b,x=>zc a x.1++zc b x.2
 | .arr _ t,xs=>(xs.map (zc t)).flatten
 | .sl _,_=>[.slice none 0 0]
 | .ptr _,_=>[]
 | .own _,_=>[]
 | .any,_=>[]
 | .byt _,_=>[]
 | .self _,_=>[]
 | .fn _ _,_=>[]
 | .mp _ _,_=>[]
 | .nb _,_=>[]
 | .ifc _ _,_=>[.nilIface]
 | .nod,_=>[]
def zOk:(t:T)->t.den->Bool
 | .int _,_=>true
 | .bool,_=>true
 | .str,_=>true
 | .opq,x=>x.oneCell'
 | .unit,_=>true
 | .pair a b,x=>z1i (zOk a x.1) (zOk b x.2)
 | .arr n t,xs=>z1i (Nat.beq xs.length n) (xs.all (zOk t))
 | .sl _,xs=>xs.isEmpty
 | .ptr _,_=>false
 | .own _,_=>false
 | .any,_=>false
 | .byt _,_=>false
 | .self _,_=>false
 | .fn _ _,_=>false
 | .mp _ _,_=>false
 | .nb _,_=>false
 | .ifc _ _,x=>!x.isSome
 | .nod,_=>false
def zv (t:T)(x:t.den):Value:=match t.isAgg with
 | true=>.agg (zc t x).toArray
 | false=>(zc t x).headD .nilIface
structure TyOk (P:Program) (i:TypeId) (e:TyI):Prop where
 und:P.underlying i=some e.desc
 info:∃ inf,P.info? i=some inf/\inf.size=e.size/\inf.bytes=e.bytes/\∃ z,inf.zero=some z/\VR z1a5 e.t e.zero z
 size:e.t.size=e.size
 agg:z10x e.desc=e.t.isAgg
 cmp:e.cmp=true->P.stoodInHeld i=false/\P.eqGuardType P.depth i=false
 zeq:∃ inf,P.info? i=some inf/\inf.zero=some (zv e.t e.zero)
 zok:zOk e.t e.zero=true
structure ArgsRel (h S:Hp) (args:List A) (vals:List Value) (ob:Nat->List Nat):Prop where
 len:args.length=vals.length
 rel:∀ (i:Nat) (x:A),args[i]?=some x->(∃ v,vals[i]?=some v/\ARel h S (fun _=>undef) x v (ob i))/\x.refs=[]
 out:∀ i,args.length<=i->ob i=[]
 inj:∀ i j b,b∈ob i->b∈ob j->i=j
 nd:∀ i,(ob i).Nodup
 hid:∀ i b,b∈ob i->S b=none
def GlobOk (glob:Nat->Option Dat)(S:Hp):Prop:=∀ g d,glob g=some d->VR S (.ptr d.1) d.2 (.pointer (some ⟨g,0,none⟩))/\∃ cs E fr,S g=some (.cells cs E fr)/\Rd S d.1 d.2 cs.toList
def z8f:A->Bool
 | .box ..=>true
 | _=>false
def Ends (w:World)(S:Hp)(args:List A)(vals:List Value)(ob:Nat->List Nat)(r:A)(outs:List A)(e:Ending)(w':World):Prop :=
 ∃ (v:Value) (S':Hp) (o:List Nat) (ob':Nat->List Nat),e=.returned v/\WF w (fun b=>∃ i,b∈ob i) w'/\Sub S S'/\Sub S' (hp w') ∧
 (∀ b,S' b≠none->S b≠none\/(∃ i,b∈ob i)\/w.heap.size<=b) ∧
 (ARel (hp w') S' (fun _=>undef) r v o/\r.refs=[]) ∧
 (∀ b∈o,S' b=none/\((∃ i,b∈ob i)\/w.heap.size<=b))/\o.Nodup ∧
 (∀ i x,args[i]?=some x->z8f x=true->∃ x' v,outs[i]?=some x'/\vals[i]?=some v/\z8f x'=true/\ARel (hp w') S' (fun _=>undef) x' v (ob' i)) ∧
 (∀ i b,b∈ob' i->((∃ j,b∈ob j)\/w.heap.size<=b)/\S' b=none/\b∉o) ∧
 (∀ i j b,b∈ob' i->b∈ob' j->i=j)/\(∀ i,(ob' i).Nodup)/\(∀ i,ob i=[]->ob' i=[])
def Contract (P:Program)(glob:Nat->Option Dat)(f:FuncId)(g:List A->Res):Prop :=
 (∃ fn, P.funcs[f]? = some fn /\ fn.body.isSome = true /\ fn.name ≠ "runtime.NumGoroutine") ∧
 ∀ (w:World) (S:Hp) (args:List A) (vals:List Value) (ob:Nat->List Nat),ArgsRel (hp w) S args vals ob->Sub S (hp w)->GlobOk glob S →
 ∀ y,(g args).val=some y->Calls P f vals.toArray w fun e w'=>Ends w S args vals ob ((g args).out y).1 ((g args).out y).2 e w'
def mkL:(ts:List T)->z3l ts->List Dat
 | [],_=>[]
 | t::ts,x=>⟨t,x.1⟩::mkL ts x.2
def zfl (J:(Nat->Prop)->Hp->World->Prop):Prop:=∀ O Sh W W',J O Sh W->WF W (fun b=>¬ O b) W'->Sub Sh (hp W')->J O Sh W'
def ItOk (P:Program)(glob:Nat->Option Dat)(f:FuncId)(g:Dat->ItRes):Prop :=
 (∃ fn, P.funcs[f]? = some fn /\ fn.body.isSome = true /\ fn.name ≠ "runtime.NumGoroutine") ∧
 ∀ (W:World) (S:Hp) (d:Dat) (caps:Array Value),Rd S d.1 d.2 caps.toList->Sub S (hp W)->GlobOk glob S->∀ xs,(g d).val=some xs →
 ∀ (l:Nat) (J:List (z3l (g d).ts)->(Nat->Prop)->Hp->World->Prop) (Jx:(Nat->Prop)->Hp->World->Prop),(∀ ys,zfl (J ys))->zfl Jx →
 (∀ y ys (O:Nat->Prop) (Sh S1:Hp) (W1:World) (vals:Array Value),J (y::ys) O Sh W1->Sub Sh S1->Sub S1 (hp W1)->(∀ b,S1 b≠none->Sh b≠none\/¬ O b)->TupRel S1 (mkL (g d).ts y) vals.toList →
 YieldAt Fence.wide 0 P l vals W1 fun e W'=>∃ O':Nat->Prop,(∀ b,O b->O' b)/\(∀ b,O' b->O b\/(W1.heap.size<=b/\b<W'.heap.size))/\WF W1 O W'/\Sub S1 (hp W') ∧
 ((e=.returned (.bool true)/\J ys O' S1 W')\/(e=.returned (.bool false)/\Jx O' S1 W'))) →
 J xs (fun b=>b<W.heap.size) S W->Calls P f (#[.func (.yield l) #[] #[]]++caps) W fun e W'=>(∃ v,e=.returned v)/\∃ O Sh,J [] O Sh W'\/Jx O Sh W'
structure EnvOk (P:Program) (E:Env):Prop where
 ty:∀ i e,E.ty i=some e->TyOk P i e
 fn:∀ f,(∀ args,(E.fn f args).val=none)\/Contract P E.glob f (E.fn f)
 it:∀ f,(∀ d,(E.it f d).val=none)\/ItOk P E.glob f (E.it f)
 mixed:P.follows .mixedOrders=true
theorem GlobOk.mono {glob:Nat->Option Dat}{S S':Hp}(h:Sub S S')(hg:GlobOk glob S):GlobOk glob S':=fun g d e=>⟨(hg g d e).1.mono h,let ⟨cs,E,fr,h1,h2⟩:=(hg g d e).2;⟨cs,E,fr,h _ _ h1,Rd.mono h _ _ _ h2⟩⟩
theorem zsz {v:Value}{x:A}(h:zox v=some x)(H S:Hp)(tv:Nat->Value):ARel H S tv x v []/\x.refs=[]/\x.own=false:=by
 have opq:∀ v:Value,v.oneCell'=true->ARel H S tv (.v .opq v) v []/\(A.v .opq v).refs=[]/\(A.v .opq v).own=false:=fun v hv=>⟨⟨VR.of_one rfl ⟨rfl,hv⟩,rfl⟩,rfl,rfl⟩
 cases v<;>simp only[zox,Option.some.injEq,reduceCtorEq] at h<;>(try (subst h;exact opq _ rfl))
 . subst h;exact⟨⟨VR.bool,rfl⟩,rfl,rfl⟩
 . subst h;exact⟨⟨VR.int,rfl⟩,rfl,rfl⟩
 . subst h;exact⟨⟨VR.of_one rfl rfl,rfl⟩,rfl,rfl⟩
 . rename_i a len cap;split at h
   all_goals (first|(simp at h;done)|skip)
   all_goals (simp only[Option.some.injEq] at h;subst h)
   all_goals (first|exact opq _ rfl|skip)
   all_goals simp_all [ARel,A.refs,A.own]
section
variable {E:Env} {α:Type} {c:Ctx} {st:List A} {fp:FP} {r:α×List A×FP} {a:Act} {w:World} {S:Hp} {ob:Nat->List Nat}
theorem zm {st:List A}{t:Nat}{x:A}(h:st.getD t .dead=x)(hx:x ≠ .dead):st[t]?=some x:=by
 simp only[List.getD] at h;cases hs:st[t]? with
 | none=>simp[hs] at h;exact absurd h.symm hx
 | some y=>simp[hs] at h;rw[h]
theorem zw {x:Operand} {k:A->Cmd α} (h:zn E (rdK E x k) st fp=some r) (hs:SimD c st a w S ob) (hg:GlobOk E.glob S) :
 ∃ A fp',zn E (k A) st fp'=some r/\ARel (hp w) S (tv a) A (a.eval x) []/\A.own=false/\A ≠ .dead/\∀ s∈A.refs,∃ y:Lift.A,st[s]?=some y/\y.own=true:=by
 cases x with
 | tmp t =>
   simp only[rdK] at h;obtain⟨fp',h⟩:=zy h;have own:∀ y:Lift.A,st.getD t .dead=y->y.own=true->zn E (k (.bor t)) st fp'=some r →
    ∃ A fp',zn E (k A) st fp'=some r/\ARel (hp w) S (tv a) A (a.eval (.tmp t)) []/\A.own=false/\A ≠ .dead/\∀ s∈A.refs,∃ y:Lift.A,st[s]?=some y/\y.own=true:=by
    intro y hy ho hk;refine⟨.bor t,fp',hk,⟨rfl,rfl⟩,rfl,by simp,fun s e=>?_⟩;simp[A.refs] at e;subst e;exact⟨y,zm hy (fun e=>by subst e;simp[A.own] at ho),ho⟩
   have oth:∀ y:Lift.A,st.getD t .dead=y->y.own=false->y ≠ .dead->zn E (k y) st fp'=some r →
    ∃ A fp',zn E (k A) st fp'=some r/\ARel (hp w) S (tv a) A (a.eval (.tmp t)) []/\A.own=false/\A ≠ .dead/\∀ s∈A.refs,∃ y:Lift.A,st[s]?=some y/\y.own=true:=by
    intro y hy ho hd hk;have hat:=zm hy hd;have hrel:=hs.rel t y hat;refine⟨y,fp',hk,?_,ho,hd,fun s e=>hs.refs t y s hat e⟩;have:=hrel.nil_of_not_own ho;rw[this] at hrel;exact hrel
   generalize hy:st.getD t .dead=y at h;cases y<;>dsimp only at h<;>first
    | exact own _ hy rfl h
    | exact (z6 h).elim
    | exact oth _ hy rfl (by simp) h
 | const v =>
   simp only[rdK] at h;split at h
   . rename_i A hA;obtain⟨h1,h2,h3⟩:=zsz hA (hp w) S (tv a);exact⟨A,fp,h,h1,h3,fun e=>by subst e;cases v<;>simp[zox] at hA;split at hA<;>simp at hA,fun s e=>by rw[h2] at e;cases e⟩
   . exact (z6 h).elim
 | global g =>
   simp only[rdK] at h;split at h
   . rename_i d hd;exact⟨_,fp,h,⟨(hg g d hd).1,rfl⟩,rfl,by simp,fun s e=>by simp[A.refs] at e⟩
   . exact (z6 h).elim
 | func f =>
   simp only[rdK] at h;exact⟨_,fp,h,⟨VR.of_one rfl ⟨rfl,rfl⟩,rfl⟩,rfl,by simp,fun s e=>by simp[A.refs] at e⟩
theorem SimD.row_at (hs:SimD c st a w S ob){t:Nat}{u:T}{xs:List u.den}(h:st.getD t .dead=.row u xs):ARel (hp w) S (tv a) (.row u xs) (tv a t) (ob t) :=
 hs.rel t _ (zm h (by simp))
theorem zs8:∀ (t:T) (x:t.den),zOk t x=true->Rd z1a5 t x (zc t x)
 | .int _,_,_=>rfl
 | .bool,_,_=>rfl
 | .str,_,_=>rfl
 | .opq,_,h=>⟨rfl,h⟩
 | .unit,_,_=>rfl
 | .pair a b,x,h=>⟨_,_,rfl,zs8 a x.1 (z7 h).1,zs8 b x.2 (z7 h).2⟩
 | .arr n t,xs,h=>by
   obtain⟨h1,h2⟩:=z7 h;refine⟨Nat.eq_of_beq_eq_true h1,?_⟩;clear h h1;simp only[zc]
   induction xs with
   | nil=>rfl
   | cons x xs ih =>
     simp only[List.all_cons,Bool.and_eq_true] at h2;exact⟨zc t x,_,by simp,zs8 t x h2.1,ih h2.2⟩
 | .sl t,xs,h=>by
   have h:xs=[]:=by simpa[zOk] using h
   subst h;exact⟨none,0,rfl,by simp,.inl rfl⟩
 | .ptr _,_,h=>by simp[zOk] at h
 | .own _,_,h=>by simp[zOk] at h
 | .any,_,h=>by simp[zOk] at h
 | .byt _,_,h=>by simp[zOk] at h
 | .self _,_,h=>by simp[zOk] at h
 | .fn _ _,_,h=>by simp[zOk] at h
 | .mp _ _,_,h=>by simp[zOk] at h
 | .nb _,_,h=>by simp[zOk] at h
 | .ifc _ _,x,h=>.inl ⟨by simpa[zOk] using h,rfl⟩
 | .nod,x,h=>by simp[zOk] at h
theorem TyOk.notByt {P:Program}{i:TypeId}{e:TyI}(h:TyOk P i e)(q:Nat):e.t ≠ .byt q:=by
 obtain⟨d,sz,by_,t,z,cm⟩:=e;intro hq;dsimp only at hq;subst hq;have:=h.zok;simp[zOk] at this
theorem zv_vr {t:T}{x:t.den}(h:zOk t x=true):VR z1a5 t x (zv t x):=by
 have hr:=zs8 t x h;unfold zv;cases ht:t.isAgg with
 | true=>exact VR.of_agg ht (by simpa using hr)
 | false =>
   refine VR.of_one ht ?_;have hl:=Rd.length _ _ _ hr;have:t.size=1:=by cases t<;>simp[T.isAgg] at ht<;>rfl
   rw[this] at hl;obtain⟨v,hv⟩:=List.length_eq_one_iff.1 hl;rw[hv] at hr ⊢;exact hr
theorem zuf {t:T}{x:t.den}(h:zOk t x=true):(zv t x).cells.toList=zc t x:=by
 have hr:=zs8 t x h;unfold zv;cases ht:t.isAgg with
 | true=>rfl
 | false =>
   have hl:=Rd.length _ _ _ hr;have:t.size=1:=by cases t<;>simp[T.isAgg] at ht<;>rfl
   rw[this] at hl;obtain⟨v,hv⟩:=List.length_eq_one_iff.1 hl;rw[hv] at hr ⊢;have h1:=Rd.oneCell ht hr;simp[List.headD,z63 h1]
theorem zlj (t:T):z16 t []=0:=by cases t<;>rfl
theorem Rd.noOwn {S:Hp}:∀ (t:T) (x:t.den) (cs:List Value),Rd S t x cs->Lift.noOwn t=true
 | .pair a b,_,_,⟨c1,c2,e,h1,h2⟩=>by simp[Lift.noOwn,z1i,Rd.noOwn a _ _ h1,Rd.noOwn b _ _ h2]
 | .own _,_,_,e=>e.elim
 | .self _,_,_,e=>e.elim
 | .int _,_,_,_=>rfl
 | .bool,_,_,_=>rfl
 | .str,_,_,_=>rfl
 | .opq,_,_,_=>rfl
 | .unit,_,_,_=>rfl
 | .arr _ _,_,_,_=>rfl
 | .sl _,_,_,_=>rfl
 | .ptr _,_,_,_=>rfl
 | .any,_,_,_=>rfl
 | .byt _,_,_,_=>rfl
 | .fn _ _,_,_,_=>rfl
 | .mp _ _,_,_,e=>e.elim
 | .nb _,_,_,e=>e.elim
 | .ifc _ _,_,_,_=>rfl
 | .nod,_,_,_=>rfl
theorem zb7 (t:T)(x:t.den)(t':T)(y:t'.den):z4o t x [] t' y=match Nat.beq t.size t'.size with|true=>some ⟨t',y⟩|false=>none:=by cases t<;>rfl
theorem zgp (t:T)(x:t.den)(t':T)(y:t'.den):z7d t x [] t' y=cast t' t y:=by cases t<;>rfl
theorem zwl : ∀ (t:T) (x:t.den) (p:List Step) (t1 t2:T) (y1:t1.den) (y2:t2.den) (z:Dat),t1.size=t2.size->z4o t x p t1 y1=some z->∃ z1,z4o t x p t2 y2=some z1:=by
 intro t;have nil:∀ (t:T) (x:t.den) (t1 t2:T) (y1:t1.den) (y2:t2.den) (z:Dat),t1.size=t2.size->z4o t x [] t1 y1=some z->∃ z1,z4o t x [] t2 y2=some z1:=by
  intro t x t1 t2 y1 y2 z hsz h;rw[zb7] at h;rw[zb7,<- hsz];cases hb:Nat.beq t.size t1.size with
  | true=>exact⟨_,rfl⟩
  | false=>rw[hb] at h;cases h
 induction t with
 | pair a b iha ihb =>
   intro x p t1 t2 y1 y2 z hsz h;cases p with
   | nil=>exact nil _ _ _ _ _ _ _ hsz h
   | cons s p =>
     cases s with
     | idx i=>simp[z4o] at h
     | fld i =>
       cases i with
       | zero =>
         simp only[z4o] at h ⊢;split at h
         . rename_i q hq;obtain⟨z1,hz1⟩:=iha x.1 p t1 t2 y1 y2 q hsz hq;rw[hz1];exact⟨_,rfl⟩
         . cases h
       | succ i =>
         simp only[z4o] at h ⊢;split at h
         . rename_i q hq;obtain⟨z1,hz1⟩:=ihb x.2 (.fld i::p) t1 t2 y1 y2 q hsz hq;rw[hz1];exact⟨_,rfl⟩
         . cases h
 | _ =>
   intro x p t1 t2 y1 y2 z hsz h;cases p with
   | nil=>exact nil _ _ _ _ _ _ _ hsz h
   | cons s p=>cases s<;>simp[z4o] at h
theorem TyOk.noOwn {P:Program}{i:TypeId}{e:TyI}(h:TyOk P i e):Lift.noOwn e.t=true:=(zs8 _ _ h.zok).noOwn
theorem zt6 {m:Nat×Nat} {h S:Hp}:∀ (t:T) (x:t.den) (p:List Step) (cs:List Value) (bs:List Nat),RdO m h S t x cs bs->inb t x p=true →
 ∃ c0 c1 c2 b0 b1 b2,cs=c0++(c1++c2)/\bs=b0++(b1++b2)/\c0.length=z16 t p/\RdO m h S (foc t x p).1 (foc t x p).2 c1 b1 ∧
   (∀ (h' S':Hp),Sub S S'->(∀ k∈b0++b2,h' k=h k)->∀ (t':T) (y:t'.den) (d:List Value) (bs':List Nat) (z:Dat),z4o t x p t' y=some z->RdO m h' S' t' y d bs'->RdO m h' S' z.1 z.2 (c0++(d++c2)) (b0++(bs'++b2))) ∧
   (∀ (h' S':Hp),Sub S S'->(∀ k∈b0++b2,h' k=h k)->∀ (t':T) (y:t'.den) (d:List Value) (bs':List Nat) (x':t.den),z7d t x p t' y=some x'->RdO m h' S' t' y d bs'->t'=(foc t x p).1/\RdO m h' S' t x' (c0++(d++c2)) (b0++(bs'++b2))):=by
 intro t;have base:∀ (t:T) (x:t.den) (cs:List Value) (bs:List Nat),RdO m h S t x cs bs->z16 t []=0->foc t x []=⟨t,x⟩ →
  ∃ c0 c1 c2 b0 b1 b2,cs=c0++(c1++c2)/\bs=b0++(b1++b2)/\c0.length=z16 t []/\RdO m h S (foc t x []).1 (foc t x []).2 c1 b1 ∧
    (∀ (h' S':Hp),Sub S S'->(∀ k∈b0++b2,h' k=h k)->∀ (t':T) (y:t'.den) (d:List Value) (bs':List Nat) (z:Dat),z4o t x [] t' y=some z->RdO m h' S' t' y d bs'->RdO m h' S' z.1 z.2 (c0++(d++c2)) (b0++(bs'++b2))) ∧
    (∀ (h' S':Hp),Sub S S'->(∀ k∈b0++b2,h' k=h k)->∀ (t':T) (y:t'.den) (d:List Value) (bs':List Nat) (x':t.den),z7d t x [] t' y=some x'->RdO m h' S' t' y d bs'->t'=(foc t x []).1/\RdO m h' S' t x' (c0++(d++c2)) (b0++(bs'++b2))):=by
  intro t x cs bs hr h0 hf;refine⟨[],cs,[],[],bs,[],by simp,by simp,by rw[h0];rfl,by rw[hf];exact hr,?_,?_⟩
  . intro h' S' hS _ t' y d bs' z hz hy;rw[zb7] at hz;split at hz
    . cases hz;simpa using hy
    . cases hz
  . intro h' S' hS _ t' y d bs' x' hz hy;rw[zgp] at hz;obtain⟨e,e'⟩:=z12 hz;subst e;subst e';exact⟨by rw[hf],by simpa using hy⟩
 induction t with
 | pair a b iha ihb =>
   intro x p cs bs hr hi;cases p with
   | nil=>exact base _ x cs bs hr rfl rfl
   | cons s p =>
     cases s with
     | idx i=>simp[inb] at hi
     | fld i =>
       obtain⟨d1,d2,e1,e2,ec,eb,h1,h2⟩:=hr;cases i with
       | zero =>
         simp only[inb] at hi;obtain⟨c0,c1,c2,b0,b1,b2,hc,hb,hl,hf,hp,hs⟩:=iha x.1 p d1 e1 h1 hi;refine⟨c0,c1,c2++d2,b0,b1,b2++e2,by rw[ec,hc];simp,by rw[eb,hb];simp,by simpa[z16] using hl,by simpa[foc] using hf,?_,?_⟩
         . intro h' S' hS hk t' y d bs' z hz hy;simp only[z4o] at hz;split at hz
           . rename_i q hq;cases hz;have:=hp h' S' hS (fun k hk'=>hk k (by simp at hk' ⊢;rcases hk' with h|h<;>simp[h])) t' y d bs' q hq hy;exact⟨_,d2,_,e2,by simp,by simp,this,h2.mono hS _ _ _ _ (fun k hk'=>hk k (by simp[hk']))⟩
           . cases hz
         . intro h' S' hS hk t' y d bs' x' hz hy;simp only[z7d] at hz;split at hz
           . rename_i q hq;cases hz;obtain⟨et,this⟩:=hs h' S' hS (fun k hk'=>hk k (by simp at hk' ⊢;rcases hk' with h|h<;>simp[h])) t' y d bs' q hq hy;exact⟨by simpa[foc] using et,_,d2,_,e2,by simp,by simp,this,h2.mono hS _ _ _ _ (fun k hk'=>hk k (by simp[hk']))⟩
           . cases hz
       | succ i =>
         simp only[inb] at hi;obtain⟨c0,c1,c2,b0,b1,b2,hc,hb,hl,hf,hp,hs⟩:=ihb x.2 (.fld i::p) d2 e2 h2 hi;refine⟨d1++c0,c1,c2,e1++b0,b1,b2,by rw[ec,hc];simp,by rw[eb,hb];simp,by simp[z16,hl,RdO.length a _ _ _ h1],by simpa[foc] using hf,?_,?_⟩
         . intro h' S' hS hk t' y d bs' z hz hy;simp only[z4o] at hz;split at hz
           . rename_i q hq;cases hz;have:=hp h' S' hS (fun k hk'=>hk k (by simp at hk' ⊢;rcases hk' with h|h<;>simp[h])) t' y d bs' q hq hy;exact⟨d1,_,e1,_,by simp,by simp,h1.mono hS _ _ _ _ (fun k hk'=>hk k (by simp[hk'])),this⟩
           . cases hz
         . intro h' S' hS hk t' y d bs' x' hz hy;simp only[z7d] at hz;split at hz
           . rename_i q hq;cases hz;obtain⟨et,this⟩:=hs h' S' hS (fun k hk'=>hk k (by simp at hk' ⊢;rcases hk' with h|h<;>simp[h])) t' y d bs' q hq hy;exact⟨by simpa[foc] using et,d1,_,e1,_,by simp,by simp,h1.mono hS _ _ _ _ (fun k hk'=>hk k (by simp[hk'])),this⟩
           . cases hz
 | arr n t _ =>
   intro xs p cs bs hr hi;cases p with
   | nil=>exact base _ xs cs bs hr rfl rfl
   | cons s p =>
     obtain⟨eb,hr⟩:=hr;obtain⟨c0,c1,c2,hc,hl,hf,hs⟩:=z13z (.arr n t) xs (s::p) cs hr hi;refine⟨c0,c1,c2,[],[],[],hc,by rw[eb];rfl,hl,RdO.of_rd _ _ _ hf,?_,?_⟩
     . intro h' S' hS _ t' y d bs' z hz;cases s<;>simp[z4o] at hz
     . intro h' S' hS _ t' y d bs' x' hz hy
       -- the focus owns nothing
       cases s with
       | fld i=>simp[inb] at hi
       | idx i =>
       have key:∀ (u:T) (x:u.den) (p:List Step) (x':u.den),inb u x p=true->z7d u x p t' y=some x'->t'=(foc u x p).1:=by
        intro u
        induction u with
        | pair a b iha ihb =>
          intro x p x' hi hz;cases p with
          | nil=>rw[zgp] at hz;exact (z12 hz).1
          | cons s p =>
            cases s with
            | idx i=>simp[inb] at hi
            | fld i =>
              cases i with
              | zero =>
                simp only[z7d] at hz;split at hz
                . rename_i q hq;exact iha x.1 p q (by simpa[inb] using hi) hq
                . cases hz
              | succ i =>
                simp only[z7d] at hz;split at hz
                . rename_i q hq;exact ihb x.2 (.fld i::p) q (by simpa[inb] using hi) hq
                . cases hz
        | arr m u ih =>
          intro x p x' hi hz;cases p with
          | nil=>rw[zgp] at hz;exact (z12 hz).1
          | cons s p =>
            cases s with
            | fld i=>simp[inb] at hi
            | idx i =>
              simp only[z7d] at hz;split at hz
              . rename_i q hq;exact ih _ p q ((z7 (by simpa[inb] using hi)).2) hq
              . cases hz
        | _ =>
          intro x p x' hi hz;cases p with
          | nil=>rw[zgp] at hz;exact (z12 hz).1
          | cons s p=>cases s<;>simp[inb] at hi
       have et:=key _ _ _ _ hi hz;have hno:noOwn t'=true:=by rw[et];exact hf.noOwn
       obtain⟨e1,hrd⟩:=hy.rd _ _ _ _ hno
       -- the z13z,with more that is read
       obtain⟨c0',c1',c2',hc',hl',hf',hs'⟩:=z13z (.arr n t) xs (.idx i::p) cs (hr.mono hS) hi;have h1:c0'=c0/\c1'++c2'=c1++c2:=List.append_inj (by rw[<- hc',<- hc]) (by rw[hl',hl]);have h2:c1'=c1/\c2'=c2:=List.append_inj h1.2 (by rw[hf'.length,hf.length]);obtain⟨e2,h3⟩:=hs' t' y d x' hz hrd;exact⟨e2,by simp[e1],by rw[<- h1.1,<- h2.2];exact h3⟩
 | _ =>
   intro x p cs bs hr hi;cases p with
   | nil=>exact base _ x cs bs hr rfl rfl
   | cons s p=>cases s<;>simp[inb] at hi
theorem SimD.cel_row (hs:SimD c st a w S ob){r n:Nat}{p:List Step}{v:Value}(hA:ARel (hp w) S (tv a) (.cel r n p) v []){t:T}{x:t.den}(hy:st.getD r .dead=.box t x)(hin:inb t x p=true)(hn:n=z16 t p){u:T}{xs:List u.den}(hf:foc t x p=⟨.own u,xs⟩) :
 ∃ b cs E fr b0 b1 b2 c0 c2,ob r=b::(b0++(b1++b2))/\tv a r=.pointer (some ⟨b,0,none⟩)/\hp w b=some (.cells cs E fr)/\Free cs fr/\cs.toList=c0++([v]++c2)/\c0.length=n/\RowRel (hp w) S u xs v b1 ∧
   (∀ (h' S':Hp),Sub S S'->(∀ k∈b0++b2,h' k=hp w k)->∀ (t':T) (y:t'.den) (d:List Value) (bs':List Nat) (z:Dat),z4o t x p t' y=some z->RdO (b,E) h' S' t' y d bs'->RdO (b,E) h' S' z.1 z.2 (c0++(d++c2)) (b0++(bs'++b2))):=by
 obtain⟨b,cs,E,fr,bs,hob,hv,hcs,hfr,hr⟩:=hs.rel r _ (zm hy (by simp));obtain⟨c0,c1,c2,b0,b1,b2,hc,hb,hl,hfo,hput,_⟩:=zt6 t x p _ _ hr hin;rw[hf] at hfo;obtain⟨v',e1,hrow⟩:=hfo;obtain⟨_,b',cs',E',fr',hbl,hcs',hcell⟩:=hA;have:b'=b:=by rw[hv] at hbl;simpa[z1q] using hbl.symm
 subst this;rw[hcs] at hcs';cases hcs';have ev:v=v':=by
  rw[<- Array.getElem?_toList,hc,List.getElem?_append_right (by omega),hl,<- hn,Nat.sub_self,e1] at hcell;simpa using hcell.symm
 subst ev;exact⟨b',cs,E,fr,b0,b1,b2,c0,c2,by rw[hob,hb],hv,hcs,hfr,by rw[hc,e1],by rw[hl,hn],hrow,hput⟩
theorem z74 {n0:Nat} {n:Nat} {p:List Step} {k:(t:T)->t.den->(u:T)->List u.den->Cmd α} (h:zn E (zxq n0 n p k) st fp=some r) :
 ∃ t x u xs fp',zn E (k t x u xs) st fp'=some r/\st.getD n0 .dead=.box t x/\inb t x p=true/\n=z16 t p/\foc t x p=⟨.own u,xs⟩:=by
 unfold zxq at h;obtain⟨fp1,h⟩:=zy h;split at h
 . rename_i t x hy;split at h
   . rename_i hck;obtain⟨h1,h2⟩:=z7 hck;unfold z116 at h;split at h
     . rename_i u xs hf;exact⟨t,x,u,xs,fp1,h,hy,h1,Nat.eq_of_beq_eq_true h2,hf⟩
     . exact (z6 h).elim
   . exact (z6 h).elim
 . exact (z6 h).elim
theorem zdp {b:Nat}{b0 b1 b2:List Nat}(h:(b::(b0++(b1++b2))).Nodup):(b::(b0++([]++b2))).Nodup/\(∀ k∈b1,k∉b::(b0++([]++b2)))/\b1.Nodup:=by
 have h':(b::(b0++(b1++b2))).Perm (b1++(b::(b0++([]++b2)))):=by
  refine ((List.Perm.cons b (List.perm_append_comm_assoc b0 b1 b2))).trans ?_;simpa using (List.perm_middle (a:=b) (l₁:=b1) (l₂:=b0++b2)).symm
 have h2:=h'.nodup_iff.1 h;rw[List.nodup_append] at h2;exact⟨h2.2.1,fun k hk hk2=>h2.2.2 k hk k hk2 rfl,h2.1⟩
theorem SimD.retireCel (hs:SimD c st a w S ob) {r0 n:Nat} {p:List Step} {v:Value} (hA:ARel (hp w) S (tv a) (.cel r0 n p) v []) {t:T} {x:t.den} (hy:st.getD r0 .dead=.box t x) (hin:inb t x p=true) (hn:n=z16 t p) {u:T} {xs:List u.den} (hf:foc t x p=⟨.own u,xs⟩)
 {z:Dat} (hz:z4o t x p (.sl u) xs=some z):∃ S' ob',Sub S S'/\VR S' (.sl u) xs v/\SimD c (z1j st r0 (.box z.1 z.2)) a w S' ob':=by
 obtain⟨b,cs,E',fr,b0,b1,b2,c0,c2,hob,hv,hcs,hfr,hc,hl,hrow,hput⟩:=hs.cel_row hA hy hin hn hf;have hlt:r0<st.length:=by
  rcases Nat.lt_or_ge r0 st.length with h|h
  . exact h
  . rw[hs.out r0 h] at hob;cases hob
 have hnd:=hs.nd r0;rw[hob] at hnd;obtain⟨hnd',hdis,_⟩:=zdp hnd
 -- the box forgets the row
 obtain⟨z1,hz1⟩:∃ z1,z4o t x p .any ()=some z1:=by
  exact zwl t x p (.sl u) .any xs () z (by simp[T.size]) hz
 have hbox:ARel (hp w) S (tv a) (.box z1.1 z1.2) (tv a r0) (b::(b0++([]++b2))):=by
  refine⟨b,cs,E',fr,_,rfl,hv,hcs,hfr,?_⟩;rw[hc];exact hput (hp w) _ (Sub.refl _) (fun _ _=>rfl) .any () [v] [] z1 hz1 ⟨rfl,v,rfl,hrow.one⟩
 have hs1:=hs.content' (w':=w) hlt (b:=b) (by rw[hob];simp) hbox rfl hnd' (fun k hk=>.inl (by rw[hob];simp at hk ⊢;rcases hk with h|h|h<;>simp[h])) (fun _ _=>rfl) hs.frame;have hun:∀ k∈b1,(∀ i,k∉(fun i=>if i=r0 then b::(b0++([]++b2)) else ob i) i):=by
  intro k hk i hi;dsimp only at hi;split at hi
  . exact hdis k hk hi
  . rename_i hne;exact hne (hs.inj i r0 k hi (by rw[hob];simp[hk]))
 have hmem:∀ k∈b1,k∈ob r0:=fun k hk=>by rw[hob];simp[hk]
 obtain⟨hSS,hs2⟩:=hs1.share b1 (fun k hk=>⟨hun k hk,hs.hid r0 k (hmem k hk),hs.fresh r0 k (hmem k hk),by
  obtain⟨o,ho⟩:=(hs.rel r0 _ (zm hy (by simp))).obj k (hmem k hk);exact⟨o,ho⟩⟩)
 have hvr:VR (fun b=>if b∈b1 then hp w b else S b) (.sl u) xs v:=hrow.shared hSS (fun k hk=>by simp[hk])
 -- and holds it again,as a datum
 have hbox2:ARel (hp w) (fun b=>if b∈b1 then hp w b else S b) (tv a) (.box z.1 z.2) (tv a r0) (b::(b0++([]++b2))):=by
  refine⟨b,cs,E',fr,_,rfl,hv,hcs,hfr,?_⟩;rw[hc];exact hput (hp w) _ hSS (fun _ _=>rfl) (.sl u) xs [v] [] z hz ⟨rfl,by have:=hvr;unfold VR at this;simpa[T.isAgg] using this⟩
 have hs3:=hs2.content' (w':=w) (by rw[z24];exact hlt) (b:=b) (by simp) hbox2 rfl hnd' (fun k hk=>.inl (by simp at hk ⊢;exact hk)) (fun _ _=>rfl) hs2.frame;have est:z1j (z1j st r0 (.box z1.1 z1.2)) r0 (.box z.1 z.2)=z1j st r0 (.box z.1 z.2):=by
  apply List.ext_getElem?;intro i;simp only[z1j];by_cases hi:r0=i
  . subst hi;rw[List.getElem?_set_self (by simpa using hlt),List.getElem?_set_self (by simpa using hlt)]
  . rw[List.getElem?_set_ne hi,List.getElem?_set_ne hi,List.getElem?_map,List.getElem?_set_ne hi,List.getElem?_map];cases st[i]? with
    | none=>rfl
    | some q =>
      simp only[Option.map_some];congr 1;rcases z9f r0 q with⟨e,_⟩|⟨e,_⟩<;>rw[e]
      . exact e
      . rfl
 rw[est] at hs3;exact⟨_,_,hSS,hvr,hs3⟩
theorem SimD.retireBox (hs:SimD c st a w S ob) {r:Nat} {t:T} {y:t.den} (hy:st.getD r .dead=.box t y) :
 ∃ S' ob',Sub S S'/\SimD c (z1j st r (.box (frz t) (zra t y))) a w S' ob':=by
 obtain⟨b,cs,E',fr,bs,hob,hv,hcs,hfr,hrd⟩:=hs.rel r _ (zm hy (by simp));have hlt:r<st.length:=by
  rcases Nat.lt_or_ge r st.length with h|h
  . exact h
  . rw[hs.out r h] at hob;cases hob
 have hnd:=hs.nd r;rw[hob] at hnd;have hbox:ARel (hp w) S (tv a) (.box (fgt t) (z104 t y)) (tv a r) [b]:=⟨b,cs,E',fr,[],rfl,hv,hcs,hfr,RdO.fgt _ _ _ _ hrd⟩
 have hs1:=hs.content' (w':=w) hlt (b:=b) (by rw[hob];simp) hbox rfl (List.nodup_cons.2 ⟨by simp,List.nodup_nil⟩) (fun k hk=>.inl (by rw[hob,List.mem_singleton.1 hk];simp)) (fun _ _=>rfl) hs.frame;have hmem:∀ k∈bs,k∈ob r:=fun k hk=>by rw[hob];simp[hk]
 have hun:∀ k∈bs,(∀ i,k∉(fun i=>if i=r then [b] else ob i) i):=by
  intro k hk i hi;dsimp only at hi;split at hi
  . rw[List.mem_singleton.1 hi] at hk;exact (List.nodup_cons.1 hnd).1 hk
  . rename_i hne;exact hne (hs.inj i r k hi (hmem k hk))
 obtain⟨hSS,hs2⟩:=hs1.share bs (fun k hk=>⟨hun k hk,hs.hid r k (hmem k hk),hs.fresh r k (hmem k hk),by
  obtain⟨o,ho⟩:=(hs.rel r _ (zm hy (by simp))).obj k (hmem k hk);exact⟨o,ho⟩⟩)
 have hbox2:ARel (hp w) (fun b=>if b∈bs then hp w b else S b) (tv a) (.box (frz t) (zra t y)) (tv a r) [b] :=
  ⟨b,cs,E',fr,[],rfl,hv,hcs,hfr,RdO.frz hSS _ _ _ _ (fun k hk=>if_pos hk) hrd⟩
 have hs3:=hs2.content' (w':=w) (by rw[z24];exact hlt) (b:=b) (by simp) hbox2 rfl (List.nodup_cons.2 ⟨by simp,List.nodup_nil⟩) (fun k hk=>.inl (by simp at hk ⊢;exact hk)) (fun _ _=>rfl) hs2.frame;have est:z1j (z1j st r (.box (fgt t) (z104 t y))) r (.box (frz t) (zra t y))=z1j st r (.box (frz t) (zra t y)):=by
  apply List.ext_getElem?;intro i;simp only[z1j];by_cases hi:r=i
  . subst hi;rw[List.getElem?_set_self (by simpa using hlt),List.getElem?_set_self (by simpa using hlt)]
  . rw[List.getElem?_set_ne hi,List.getElem?_set_ne hi,List.getElem?_map,List.getElem?_set_ne hi,List.getElem?_map];cases st[i]? with
    | none=>rfl
    | some q =>
      simp only[Option.map_some];congr 1;rcases z9f r q with⟨e,_⟩|⟨e,_⟩<;>rw[e]
      . exact e
      . rfl
 rw[est] at hs3;exact⟨_,_,hSS,hs3⟩
theorem z89 {r:Nat}{y:A}(h:st.getD r .dead=y)(hy:y ≠ .dead):r<st.length:=by
 have hat:=zm h hy;rcases Nat.lt_or_ge r st.length with h'|h'
 . exact h'
 . simp[List.getElem?_eq_none h'] at hat
theorem zyj {st:List A}{r s:Nat}{x:A}(hne:s≠r)(h:st[s]?=some x)(ho:x.own=true):(z97 st r)[s]?=some x:=by
 unfold z97;split
 . rename_i y _;rw[List.getElem?_set_ne (Ne.symm hne),List.getElem?_map,h];cases x<;>simp[A.own] at ho<;>rfl
 . exact h
theorem zrs:∀ (rs:List Nat) (k:Dat->Cmd α) (st:List A) (fp:FP) (S:Hp) (ob:Nat->List Nat) (r:α×List A×FP),zn E (z135 rs k) st fp=some r->SimD c st a w S ob →
 ∃ d st' fp' S' ob',zn E (k d) st' fp'=some r/\SimD c st' a w S' ob'/\Sub S S'/\Rd S' d.1 d.2 (rs.map (tv a))/\st'.length=st.length
 | [],k,st,fp,S,ob,r,h,hs=>⟨⟨.unit,()⟩,st,fp,S,ob,h,hs,Sub.refl _,rfl,rfl⟩
 | s :: rs,k,st,fp,S,ob,r,h,hs=>by
   simp only[z135] at h;obtain⟨fp1,h⟩:=zy h;split at h
   . rename_i t x hy;split at h
     . rename_i hn;obtain⟨fp2,h⟩:=z3k h;obtain⟨S1,t1,z1,hS1,e1,hv,hs1⟩:=hs.retire (zm hy (by simp)) (y:=.v (.ptr t) x) (by simp[zxn,hn]);cases e1;obtain⟨d,st2,fp3,S2,ob2,h3,hs2,hS2,hrd,hl⟩:=zrs rs _ _ _ _ _ _ h hs1;refine⟨_,st2,fp3,S2,ob2,h3,hs2,hS1.trans hS2,?_,by rw[hl,z3b]⟩;have hv2:=hv.mono hS2;unfold VR at hv2;simp only[T.isAgg,Bool.false_eq_true,if_false] at hv2;exact⟨[tv a s],_,rfl,hv2,hrd⟩
     . exact (z6 h).elim
   . exact (z6 h).elim
theorem z10e {A:A} {v:Value} {k:Dat->Cmd α} (h:zn E (z18g A k) st fp=some r) (hs:SimD c st a w S ob) (hA:ARel (hp w) S (tv a) A v []) :
 ∃ d st' fp' S' ob',zn E (k d) st' fp'=some r/\SimD c st' a w S' ob'/\Sub S S'/\VR S' d.1 d.2 v/\st'.length=st.length:=by
 cases A<;>simp only[z18g] at h<;>(try exact (z6 h).elim)
 case v t x=>exact⟨⟨t,x⟩,st,fp,S,ob,h,hs,Sub.refl _,hA.1,rfl⟩
 case bor s =>
  obtain⟨fp',h⟩:=zy h;generalize hy:st.getD s .dead=y at h;cases y<;>dsimp only at h<;>(try exact (z6 h).elim)
  case row t xs =>
   obtain⟨fp'',h⟩:=z3k h;obtain⟨S',t1,z1,hS,e1,hv,hs'⟩:=hs.retire (zm hy (by simp)) (y:=.v (.sl t) xs) rfl;cases e1;exact⟨⟨.sl t,xs⟩,_,fp'',S',_,h,hs',hS,by rw[hA.1];exact hv,z3b _ _⟩
  case ov t x =>
   split at h
   . rename_i hn;obtain⟨fp'',h⟩:=z3k h;obtain⟨S',t1,z1,hS,e1,hv,hs'⟩:=hs.retire (zm hy (by simp)) (y:=.v (frz t) (zra t x)) (zql hn);cases e1;exact⟨_,_,fp'',S',_,h,hs',hS,by rw[hA.1];exact hv,z3b _ _⟩
   . exact (z6 h).elim
 case cel s n p =>
  obtain⟨t,x,u,xs,fp1,h,hy,hin,hn,hf⟩:=z74 h;split at h
  . rename_i z hz;obtain⟨hlt,fp2,h⟩:=z1b h;obtain⟨S',ob',hS,hv,hs'⟩:=hs.retireCel hA hy hin hn hf hz;exact⟨_,_,fp2,S',ob',h,hs',hS,hv,z24 _ _ _⟩
  . exact (z6 h).elim
 case clo f rs =>
  obtain⟨d,st2,fp2,S2,ob2,h2,hs2,hS2,hrd,hl⟩:=zrs rs _ _ _ _ _ _ h hs;obtain⟨_,l,ev,el⟩:=hA;refine⟨_,st2,fp2,S2,ob2,h2,hs2,hS2,VR.of_one rfl ⟨l,by rw[ev],by rw[el];exact hrd⟩,hl⟩
theorem z6z {A:A}{v:Value}{k:Dat->Cmd α}(h:zn E (zx7 A k) st fp=some r)(hs:SimD c st a w S ob)(hA:ARel (hp w) S (tv a) A v []) :
 ∃ d st' fp' S' ob',zn E (k d) st' fp'=some r/\SimD c st' a w S' ob'/\Sub S S'/\VR S' d.1 d.2 v/\st'.length=st.length:=by
 unfold zx7 at h;obtain⟨d,st',fp',S',ob',h1,h2,h3,h4,h5⟩:=z10e h hs hA;exact⟨_,st',fp',S',ob',h1,h2,h3,h4.nrm,h5⟩
theorem zlq {A:A}{v:Value}{k:Dat->Cmd α}(h:zn E (zr0 A k) st fp=some r)(hs:SimD c st a w S ob)(hA:ARel (hp w) S (tv a) A v []) :
 ∃ d fp',zn E (k d) st fp'=some r/\VR (hp w) d.1 d.2 v:=by
 cases A<;>simp only[zr0] at h<;>(try exact (z6 h).elim)
 case v t x=>exact⟨⟨t,x⟩,fp,h,hA.1.mono hs.sub⟩
 case bor s =>
  obtain⟨fp',h⟩:=zy h;generalize hy:st.getD s .dead=y at h;cases y<;>dsimp only at h<;>(try exact (z6 h).elim)
  case row t xs =>
   exact⟨⟨.sl t,xs⟩,fp',h,by rw[hA.1];exact (hs.row_at hy).row_shared hs.sub (fun _ _=>rfl)⟩
 case cel s n p =>
  obtain⟨t,x,u,xs,fp1,h,hy,hin,hn,hf⟩:=z74 h;obtain⟨b,cs,E',fr,b0,b1,b2,c0,c2,hob,hv,hcs,hfr,hc,hl,hrow,hput⟩:=hs.cel_row hA hy hin hn hf;exact⟨_,fp1,h,hrow.shared hs.sub (fun _ _=>rfl)⟩
theorem ztp {S:Hp}{t t':T}{x:t.den}{y:t'.den}{v:Value}(h:cast t t' x=some y)(hv:VR S t x v):VR S t' y v:=by
 obtain⟨e,e'⟩:=z12 h;subst e;subst e';exact hv
theorem z10m {S:Hp}{t t':T}{x:t.den}{y:t'.den}{cs:List Value}(h:cast t t' x=some y)(hv:Rd S t x cs):Rd S t' y cs:=by
 obtain⟨e,e'⟩:=z12 h;subst e;subst e';exact hv
theorem z14k (S:Hp)(t:T):VR S (.sl t) ([]:List t.den) (.slice none 0 0):=VR.of_one rfl ⟨none,0,rfl,by simp,.inl rfl⟩
theorem zav {t:T}{A:A}{v:Value}{k:t.den->Cmd α}(h:zn E (asK t A k) st fp=some r)(hs:SimD c st a w S ob)(hA:ARel (hp w) S (tv a) A v []) :
 ∃ x st' fp' S' ob',zn E (k x) st' fp'=some r/\SimD c st' a w S' ob'/\Sub S S'/\VR S' t x v/\st'.length=st.length:=by
 unfold asK at h;split at h
 . rename_i u k;exact⟨_,st,fp,S,ob,h,hs,Sub.refl _,by rw[hA.1];exact z14k _ _,rfl⟩
 . obtain⟨d,st',fp',S',ob',h,hs',hS,hv,hl⟩:=z6z h hs hA;split at h
   . rename_i x hx;exact⟨x,st',fp',S',ob',h,hs',hS,ztp hx hv,hl⟩
   . exact (z6 h).elim
theorem zkb {A:A}{v:Value}{k:IntKind->Int->Cmd α}(h:zn E (z1a7 A k) st fp=some r)(hA:ARel (hp w) S (tv a) A v []) :
 ∃ j n,zn E (k j n) st fp=some r/\v=.int j n:=by
 unfold z1a7 at h;split at h
 . rename_i j n;exact⟨j,n,h,hA.1.int_inv⟩
 . exact (z6 h).elim
theorem z25 {i:TypeId}{k:TyI->Cmd α}(h:zn E (tyK E i k) st fp=some r):∃ e,E.ty i=some e/\zn E (k e) st fp=some r:=by
 unfold tyK at h;split at h
 . rename_i e he;exact⟨e,he,h⟩
 . exact (z6 h).elim
theorem eval_put (a:Act)(d:Option Nat)(v:Value):a.put d v=match d with|some t=>a.put (some t) v|none=>a:=by cases d<;>rfl
end
end
end Go.Lift
