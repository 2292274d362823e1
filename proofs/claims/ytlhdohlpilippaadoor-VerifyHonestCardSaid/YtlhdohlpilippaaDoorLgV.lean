import Derived.Test.YtlhdohlpilippaaDoorLgU
import Derived.Test.YtlhdohlpilippaaDoorLgZ
set_option linter.all false
namespace Go.Lift
noncomputable section
def lk.{u} {α:Type u}:List (Nat×α)->Nat->Option α
 | [],_=>none
 | e::r,i=>match Nat.beq e.1 i with
   | true=>some e.2
   | false=>lk r i
def noRes:Res:=⟨Unit,none,fun _=>(.dead,[])⟩
def z14b (l:List (Nat×(List A->Res)))(f:FuncId)(args:List A):Res:=match lk l f with
 | some g=>g args
 | none=>noRes
def noIt:ItRes:=⟨[],none⟩
def z140 (l:List (Nat×(Dat->ItRes)))(f:FuncId)(d:Dat):ItRes:=match lk l f with
 | some g=>g d
 | none=>noIt
theorem TyOk.of {P:Program}{i:TypeId}{e:TyI}(h1:P.underlying i=some e.desc)(h2:(P.info? i).map (fun f=>(f.size,f.bytes,f.zero))=some (e.size,e.bytes,some (zv e.t e.zero)))
 (h3:z1i (z1i (zOk e.t e.zero) (Nat.beq e.t.size e.size)) (z10x e.desc == e.t.isAgg)=true) (h6:(match e.cmp with
  | true=>z1i (!(P.stoodInHeld i)) (!(P.eqGuardType P.depth i))
  | false=>true)=true):TyOk P i e:=by
 obtain⟨h3,h4⟩:=z7 h3;obtain⟨h3,h5⟩:=z7 h3;have hz:∃ inf,P.info? i=some inf/\inf.zero=some (zv e.t e.zero):=by
  cases hi:P.info? i with
  | none=>rw[hi] at h2;cases h2
  | some f =>
    rw[hi] at h2;simp only[Option.map_some,Option.some.injEq,Prod.mk.injEq] at h2;exact⟨f,rfl,h2.2.2⟩
 refine⟨h1,?_,zub h5,by simpa using h4,(fun hc=>by
  rw[hc] at h6;obtain⟨h7,h8⟩:=z7 h6;exact⟨by simpa using h7,by simpa using h8⟩),hz,h3⟩
 cases hi:P.info? i with
 | none=>rw[hi] at h2;cases h2
 | some f =>
   rw[hi] at h2;simp only[Option.map_some,Option.some.injEq,Prod.mk.injEq] at h2;exact⟨f,rfl,h2.1,h2.2.1,_,h2.2.2,zv_vr h3⟩
inductive TysOk (P:Program):List (Nat×TyI)->Prop
 | nil:TysOk P []
 | cons {i:Nat} {e:TyI} {l:List (Nat×TyI)} (h:TyOk P i e) (hs:TysOk P l):TysOk P ((i,e)::l)
theorem TysOk.lk {P:Program}{l:List (Nat×TyI)}(h:TysOk P l):∀ i e,Lift.lk l i=some e->TyOk P i e:=by
 induction h with
 | nil=>intro i e h;cases h
 | cons h _ ih =>
   intro i e he;simp only[Lift.lk] at he;split at he
   . rename_i hb;cases he;rw[<- zub hb];exact h
   . exact ih i e he
inductive FnsOk (P:Program) (glob:Nat->Option Dat):List (Nat×(List A->Res))->Prop
 | nil:FnsOk P glob []
 | cons {f:FuncId} {g:List A->Res} {l:List (Nat×(List A->Res))} (h:Contract P glob f g) (hs:FnsOk P glob l):FnsOk P glob ((f,g)::l)
theorem FnsOk.fn {P:Program}{glob:Nat->Option Dat}{l:List (Nat×(List A->Res))}(h:FnsOk P glob l):∀ f,(∀ args,(z14b l f args).val=none)\/Contract P glob f (z14b l f):=by
 induction h with
 | nil=>intro f;exact .inl fun args=>rfl
 | @cons f g l h _ ih =>
   intro f';cases hb:Nat.beq f f' with
   | true =>
     have:=zub hb;subst this;refine .inr ?_;have:z14b ((f,g)::l) f=g:=by funext args;simp only[z14b,lk,hb]
     rw[this];exact h
   | false =>
     have:z14b ((f,g)::l) f'=z14b l f':=by funext args;simp only[z14b,lk,hb]
     rw[this];exact ih f'
inductive ItsOk (P:Program) (glob:Nat->Option Dat):List (Nat×(Dat->ItRes))->Prop
 | nil:ItsOk P glob []
 | cons {f:FuncId} {g:Dat->ItRes} {l:List (Nat×(Dat->ItRes))} (h:ItOk P glob f g) (hs:ItsOk P glob l):ItsOk P glob ((f,g)::l)
theorem ItsOk.it {P:Program}{glob:Nat->Option Dat}{l:List (Nat×(Dat->ItRes))}(h:ItsOk P glob l):∀ f,(∀ d,(z140 l f d).val=none)\/ItOk P glob f (z140 l f):=by
 induction h with
 | nil=>intro f;exact .inl fun args=>rfl
 | @cons f g l h _ ih =>
   intro f';cases hb:Nat.beq f f' with
   | true =>
     have:=zub hb;subst this;refine .inr ?_;have:z140 ((f,g)::l) f=g:=by funext args;simp only[z140,lk,hb]
     rw[this];exact h
   | false =>
     have:z140 ((f,g)::l) f'=z140 l f':=by funext args;simp only[z140,lk,hb]
     rw[this];exact ih f'
def z1c (tys:List (Nat×TyI))(glob:Nat->Option Dat)(fns:List (Nat×(List A->Res)))(keep:List (Nat×T))(live lent:List Nat)(ownRes:Bool)(boxT:List (Nat×T))(its:List (Nat×(Dat->ItRes)))(resO:List T:=[]):Env :=
 ⟨lk tys,glob,z14b fns,lk keep,live,lent,ownRes,lk boxT,z140 its,resO⟩
theorem zh {P:Program}{tys:List (Nat×TyI)}{glob:Nat->Option Dat}{fns:List (Nat×(List A->Res))}{keep:List (Nat×T)}{live lent:List Nat}{ownRes:Bool}{boxT:List (Nat×T)}{its:List (Nat×(Dat->ItRes))}{resO:List T}
 (hm:P.follows .mixedOrders=true) (ht:TysOk P tys) (hf:FnsOk P glob fns) (hi:ItsOk P glob its) :
 EnvOk P (z1c tys glob fns keep live lent ownRes boxT its resO):=⟨ht.lk,hf.fn,hi.it,hm⟩
def z1r (s:AS) (m:Nat) (r:A) (outs:List A):Option s.den:=match s.un r with
 | some x=>(match unS [] m outs with
   | some _=>some x
   | none=>none)
 | none=>none
def z3r (s:AS)(m:Nat)(x:s.den):A×List A:=(s.mk x,mkS [] m ())
theorem zq {s:AS}{m:Nat}:∀ (r:A) (outs:List A) (y:s.den),z1r s m r outs=some y->(r,outs)=z3r s m y:=by
 intro r outs y h;unfold z1r at h;split at h
 . rename_i x hx;split at h
   . rename_i z hz;cases h;rw[AS.un_mk hx,zda hz];rfl
   . cases h
 . cases h
def zbd (s:AS) (os:List (Nat×AS)) (m:Nat) (r:A) (outs:List A):Option (s.den×z1k os):=match s.un r with
 | some x=>(match unS os m outs with
   | some z=>some (x,z)
   | none=>none)
 | none=>none
def zi4 (s:AS)(os:List (Nat×AS))(m:Nat)(x:s.den×z1k os):A×List A:=(s.mk x.1,mkS os m x.2)
theorem z8m {s:AS}{os:List (Nat×AS)}{m:Nat}:∀ (r:A) (outs:List A) (y:s.den×z1k os),zbd s os m r outs=some y->(r,outs)=zi4 s os m y:=by
 intro r outs y h;unfold zbd at h;split at h
 . rename_i x hx;split at h
   . rename_i z hz;cases h;rw[AS.un_mk hx,zda hz];rfl
   . cases h
 . cases h
def z13w:Nat->Option Dat:=fun _=>none
theorem Contract.up {P:Program}{f:FuncId}{g:List A->Res}(h:Contract P z13w f g)(glob:Nat->Option Dat):Contract P glob f g :=
 ⟨h.1,fun w S args vals ob har hS _=>h.2 w S args vals ob har hS (fun _ _ e=>by cases e)⟩
theorem z1d7 (S:Hp):GlobOk z13w S:=fun g d h=>by cases h
end
end Go.Lift
