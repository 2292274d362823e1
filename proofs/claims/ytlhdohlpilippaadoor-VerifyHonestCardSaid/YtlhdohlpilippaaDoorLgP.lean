import Derived.Test.YtlhdohlpilippaaDoorLgO
import Derived.Orders
import Derived.Tactics
import Derived.OrdersIn
import Derived.TacticsIn
set_option linter.all false
namespace Go.Lift
noncomputable section
def zfn (o:Oper):Cmd Unit:=lay o.dst (.tup [])
def z48 (E:Env) (all:Array Oper) (o:Oper):Cmd Unit :=
 match o.guard with
 | none=>z1x E o
 | some (j,want)=>match (all[j]?).bind (·.dst) with
   | none=>.fail
   | some d=>(match want with
     | true=>.guard d (z1x E o) (zfn o) (zfn o)
     | false=>.guard d (zfn o) (z1x E o) (zfn o))
def fp0:FP:={ rd:=[],wr:=[],all:=false }
def z11v {β:Type}(E:Env)(all:Array Oper):List Oper->List A->(List A->Option β)->Option β
 | [],st,K=>K st
 | o::r,st,K=>(z48 E all o).cps E st fp0 fun _ st' _=>z11v E all r st' K
def meets (l m:List Nat):Bool:=match l with
 | []=>false
 | x::l=>match m.contains x with
   | true=>true
   | false=>meets l m
def zhd (f g:FP):Bool:=f.all || (g.all || (meets f.wr g.rd || (meets f.wr g.wr || meets g.wr f.rd)))
def zhz (o:Oper):List Nat:=(o.after.toList.filter (Region.binds .any)).map (·.on)
def zzd:List Oper->List Nat->List Nat
 | [],acc=>acc
 | o::r,acc=>zzd r (acc.append [(zhz o).foldl (fun m k=>m ||| (2^k ||| acc.getD k 0)) 0])
def z15s (o:Oper)(f g:FP):Bool:=match o.op,o.dst,o.guard with
 | .move (.tmp t),some d,none=>z1i (z1i (decide (f.rd=[t,d,t])) (z1i (decide (f.bo=[t])) (z1i (!f.ov) (!f.all)))) (z1i (!(Nat.beq t d)) (z1i (!(g.rd.contains d)) (z1i (!(g.wr.contains d)) (!(g.ow.contains t)))))
 | _,_,_=>false
def z1bf (f g:FP):Bool:=match f.wr,f.sl with
 | [d],[e]=>z1i (Nat.beq d e) (z1i (z1i (!f.ov) (z1i (!f.all) f.rr.isEmpty)) (z1i (!(g.rd.contains d)) (z1i (!(g.wr.contains d)) (!(meets f.rd g.wr)))))
 | _,_=>false
def zuu (o:Oper)(f g:FP):Bool:=match z15s o f g with
 | true=>true
 | false=>z1bf f g
def z13v (ops:List Oper) (fps:List FP) (ms:List Nat) (i j:Nat):Bool:=match zhd (fps.getD i fp0) (fps.getD j fp0) with
 | false=>true
 | true=>(match (ms.getD j 0).testBit i with
   | true=>true
   | false=>(match ops[i]? with
     | some o=>zuu o (fps.getD i fp0) (fps.getD j fp0)
     | none=>false))
def zsu:Nat->List Oper->Bool
 | _,[]=>true
 | i,o::r=>z1i ((zhz o).all fun k=>Nat.blt k i) (zsu (i+1) r)
def z13f (n:Nat)(p:Nat->Nat->Bool):Bool:=(List.range n).all fun j=>(List.range j).all fun i=>p i j
def z108 (ops:List Oper)(fps:List FP):Bool:=z1i (zsu 0 ops) (z13f ops.length (z13v ops fps (zzd ops [])))
def zik {β:Type} (E:Env) (all:Array Oper):List Oper->List FP->List A->(List A->Option β)->Option β
 | [],fps,st,K=>(match z108 all.toList fps with
   | true=>K st
   | false=>none)
 | o::r,fps,st,K=>(z48 E all o).cps E st fp0 fun _ st' fp=>zik E all r (fps.append [fp]) st' K
section
variable {P:Program} {E:Env} {c:Ctx} {st st':List A} {fp fp':FP} {a:Act} {w w':World} {S:Hp} {ob:Nat->List Nat} {o:Oper}
def FR (ρ:Option Nat):Fence:={ Fence.wide with round:=ρ }
def z1ha (P:Program)(c:Ctx)(o:Oper)(a:Act)(w:World)(st':List A):Prop :=
 ∀ ρ Q,o.wpIn (FR ρ) 0 P a w (fun a' w'=>Sim c st' a' w') Q
theorem zxc {ρ:Option Nat}{n:Nat}{f:FuncId}{args:Array Value}{w:World}{R:Ending->World->Prop}(h:Calls P f args w R):CallsIn (FR ρ) n P f args w R :=
 (callsIn_wide (n:=n)).2 h
theorem Good.inRound (h:Good P c o a w st')(hnd:∀ k,o.op ≠ .defer k):z1ha P c o a w st':=by
 intro ρ Q;have hq:=h Q;refine⟨fun _ _=>trivial,?_⟩;rw[Oper.semAt_eq _ _ _ hnd];unfold Oper.wp at hq;generalize (execOp a.eval o).run P w=r at hq;cases r with
 | ok x w' =>
   cases x<;>simp only[Oper.upon] at hq<;>simp only[Oper.uponIn]
   case value v=>exact hq
   case skip=>exact hq
   case defer d=>exact hq
   case enter f args=>exact⟨fun hd=>by simp[FR,Fence.wide] at hd,zxc hq⟩
   case row row args =>
    refine⟨fun hd=>by simp[FR,Fence.wide] at hd,?_⟩;intro b cs _;obtain⟨v,w2,h1,h2⟩:=hq b cs;exact⟨v,w2,h1,(stepsIn_wide (P:=P)).2 h2⟩
 | halt x w' =>
   cases x<;>simp only[Oper.upon] at hq<;>simp only[Oper.uponIn]
   case panic v=>exact hq
theorem zi3 (h:zn E (z1x E o) st fp=some ((),st',fp')):∀ k,o.op ≠ .defer k:=by
 intro k hk;simp only[z1x,hk] at h;exact (z6 h).elim
theorem put_same (a:Act)(d:Nat):a.put (some d) (tv a d)=a:=by
 obtain⟨tmps,ds⟩:=a;simp only[Act.put,tv,Act.mk.injEq,and_true];apply Array.ext_getElem?;intro i;by_cases h:d=i
 . subst h;by_cases hd:d<tmps.size
   . rw[Array.getElem?_setIfInBounds_self_of_lt hd];simp[Array.getD,hd]
   . rw[Array.getElem?_eq_none (by simpa using Nat.le_of_not_lt hd),Array.getElem?_eq_none (Nat.le_of_not_lt hd)]
 . rw[Array.getElem?_setIfInBounds_ne h]
theorem zgk (h:zn E (zfn o) st fp=some ((),st',fp'))(hb:Base P E c)(hs:SimD c st a w S ob):Sim c st' (a.put o.dst undef) w :=
 z11 h hb hs (o':=[]) ⟨rfl,#[],rfl,.nil⟩ (fun b e=>by cases e)
theorem zef {all:Array Oper}{j d:Nat}(h:(all[j]?).bind (·.dst)=some d)(hd:d<a.tmps.size):yielded all a.tmps j=match tv a d with | .bool b=>some b|_=>none:=by
 unfold yielded;rw[h];have:a.tmps[d]?=some (tv a d):=by simp[tv,Array.getD,hd]
 simp only[Option.bind_some,this];cases tv a d<;>rfl
theorem zif {all:Array Oper} (h:zn E (z48 E all o) st fp=some ((),st',fp')) (hb:Base P E c) (hs:Sim c st a w) :
 if Region.wanted o (yielded all a.tmps) then z1ha P c o a w st' else Sim c st' (a.put o.dst undef) w:=by
 obtain⟨S,ob,hs⟩:=hs;unfold z48 at h;split at h
 . rename_i hg;rw[if_pos (by simp[Region.wanted,hg])];exact (zsx h hb hs).inRound (zi3 h)
 . rename_i j want hg;split at h
   . exact (z6 h).elim
   . rename_i d hd;have hlt:∀ {y:A},st.getD d .dead=y->y ≠ .dead->d<a.tmps.size:=by
      intro y hy hne;have hat:=zm hy hne;rw[hs.size];rcases Nat.lt_or_ge d st.length with h|h
      . exact h
      . simp[List.getElem?_eq_none h] at hat
     have known:∀ b:Bool,st.getD d .dead=.v .bool b->Region.wanted o (yielded all a.tmps)=(b == want):=by
      intro b hy;have hA:=hs.rel d _ (zm hy (by simp));have hv:tv a d=.bool b:=hA.1.bool_inv;have hyl:=zef (a:=a) hd (hlt hy (by simp));rw[hv] at hyl;simp only[Region.wanted,hg,hyl];cases b<;>cases want<;>rfl
     have unknown:st.getD d .dead=.tup []->Region.wanted o (yielded all a.tmps)=false:=by
      intro hy;have hA:=hs.rel d _ (zm hy (by simp));obtain⟨_,vs,hv,_⟩:=hA;have hyl:=zef (a:=a) hd (hlt hy (by simp));rw[hv] at hyl;simp only[Region.wanted,hg,hyl];rfl
     cases want
     . dsimp only at h;rcases zjg h with⟨hy,fp1,h1⟩|⟨hy,fp1,h1⟩|⟨hy,fp1,h1⟩
       . rw[known _ hy];exact zgk h1 hb hs
       . rw[known _ hy];exact (zsx h1 hb hs).inRound (zi3 h1)
       . rw[unknown hy];exact zgk h1 hb hs
     . dsimp only at h;rcases zjg h with⟨hy,fp1,h1⟩|⟨hy,fp1,h1⟩|⟨hy,fp1,h1⟩
       . rw[known _ hy];exact (zsx h1 hb hs).inRound (zi3 h1)
       . rw[known _ hy];exact zgk h1 hb hs
       . rw[unknown hy];exact zgk h1 hb hs
theorem z1t {α β:Type}{k:Cmd α}{K:α->List A->FP->Option β}{y:β}(h:k.cps E st fp K=some y):∃ x st' fp',zn E k st fp=some (x,st',fp')/\K x st' fp'=some y:=by
 rw[zm7] at h;cases hx:zn E k st fp with
 | none=>rw[hx] at h;simp at h
 | some r=>rw[hx] at h;exact⟨r.1,r.2.1,r.2.2,rfl,h⟩
inductive Run (E:Env) (all:Array Oper):List Oper->List FP->List A->List A->Prop
 | nil {st:List A}:Run E all [] [] st st
 | cons {o:Oper} {l:List Oper} {fp:FP} {fps:List FP} {st st1 st2:List A} (h:zn E (z48 E all o) st fp0=some ((),st1,fp)) (hr:Run E all l fps st1 st2):Run E all (o::l) (fp::fps) st st2
theorem zuy {β:Type}{all:Array Oper}{y:β}:∀ (l:List Oper) (st:List A) (K:List A->Option β),z11v E all l st K=some y->∃ fps st',Run E all l fps st st'/\K st'=some y
 | [],st,K,h=>⟨[],st,.nil,h⟩
 | o::l,st,K,h=>by
   simp only[z11v] at h;obtain⟨_,st1,fp1,h1,h2⟩:=z1t h;obtain⟨fps,st',hr,hK⟩:=zuy l st1 K h2;exact⟨fp1::fps,st',.cons h1 hr,hK⟩
theorem zrj {β:Type}{all:Array Oper}{y:β}:∀ (l:List Oper) (fps0:List FP) (st:List A) (K:List A->Option β),zik E all l fps0 st K=some y →
 ∃ fps st',Run E all l fps st st'/\K st'=some y/\z108 all.toList (fps0++fps)=true
 | [],fps0,st,K,h=>by
   simp only[zik] at h;split at h
   . rename_i hd;exact⟨[],st,.nil,h,by simpa using hd⟩
   . cases h
 | o::l,fps0,st,K,h=>by
   simp only[zik] at h;obtain⟨_,st1,fp1,h1,h2⟩:=z1t h;obtain⟨fps,st',hr,hK,hd⟩:=zrj l _ st1 K h2;exact⟨fp1::fps,st',.cons h1 hr,hK,by simpa using hd⟩
theorem zyf {ρ:Option Nat}{all:Array Oper}{Q:Exit->Act->World->Prop}(hb:Base P E c){l:List Oper}{fps:List FP}{st st':List A}(hr:Run E all l fps st st') :
 ∀ (a:Act) (w:World),Sim c st a w->(∀ a' w',Sim c st' a' w'->Q .normal a' w')->wpListIn (FR ρ) 0 P all Q l a w:=by
 induction hr with
 | nil=>intro a w hs hq;exact hq a w hs
 | cons h _ ih =>
   intro a w hs hq;have hg:=zif h hb hs;unfold wpListIn;split
   . rename_i hw;rw[if_pos hw] at hg;exact Oper.wpIn_mono (fun a' w' hs'=>ih a' w' hs' hq) (hg ρ Q)
   . rename_i hw;rw[if_neg hw] at hg;exact⟨fun _ _=>trivial,ih _ _ hg hq⟩
end
end
end Go.Lift
