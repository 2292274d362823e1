import Derived.Test.YtlhdohlpilippaaDoorLgC
set_option linter.all false
namespace Go.Lift
noncomputable section
structure TyI where
 desc:TypeDesc
 size:Nat
 bytes:Nat
 t:T
 zero:t.den
 cmp:Bool
structure Res where
 X:Type
 val:Option X
 out:X->A×List A
structure ItRes where
 ts:List T
 val:Option (List (z3l ts))
structure Env where
 ty:TypeId->Option TyI
 glob:Nat->Option Dat
 fn:FuncId->List A->Res
 keep:Nat->Option T
 live:List Nat
 lent:List Nat
 ownRes:Bool
 boxT:Nat->Option T
 it:FuncId->Dat->ItRes
 res:List T:=[]
structure FP where
 rd:List Nat
 wr:List Nat
 all:Bool
 ow:List Nat:=[]
 ov:Bool:=false
 bo:List Nat:=[]
 sl:List Nat:=[]
 rr:List Nat:=[]
inductive Cmd (α:Type) where
 | ret (a:α)
 | fail
 | get (t:Nat) (k:A->Cmd α)
 | set (t:Nat) (x:A) (k:Cmd α)
 | cont (r:Nat) (x:A) (k:Cmd α)
 | retire (r:Nat) (k:Cmd α)
 | test (b:Bool) (x y:Cmd α)
 | call (f:FuncId) (args:List A) (k:A->List A->Cmd α)
 | guard (d:Nat) (x y z:Cmd α)
def z4l (st:List A)(t:Nat):Bool:=match st.getD t .dead with
 | .row .. | .box .. | .iter .. | .yld | .ov .. | .otup ..=>true
 | _=>false
def zwj (st:List A)(t:Nat)(x:A):Bool:=match x with
 | .bor r=>z1i (!(Nat.beq r t)) (z4l st r)
 | .adr r _ _=>z1i (!(Nat.beq r t)) (z4l st r)
 | .cel r _ _=>z1i (!(Nat.beq r t)) (z4l st r)
 | .pel r _ _ _ _=>z1i (!(Nat.beq r t)) (z4l st r)
 | .psl r _ _ _ _ _ _=>z1i (!(Nat.beq r t)) (z4l st r)
 | .clo _ rs=>rs.all fun r=>z1i (!(Nat.beq r t)) (z4l st r)
 | _=>true
def z4n (x:A):List Nat:=match x with
 | .bor r=>[r]
 | .adr r _ _=>[r]
 | .cel r _ _=>[r]
 | .pel r _ _ _ _=>[r]
 | .psl r _ _ _ _ _ _=>[r]
 | .clo _ rs=>rs
 | _=>[]
def z1a9 (x:A):List Nat:=match x with
 | .bor r=>[r]
 | _=>[]
def z14e (x:A):List Nat:=match x with
 | .cel r _ _=>[r]
 | .pel r _ _ _ _=>[r]
 | .psl r _ _ _ _ _ _=>[r]
 | _=>[]
def hasCel (r:Nat):List A->Bool
 | []=>false
 | x :: l=>(match x with
   | .cel s _ _=>(match Nat.beq s r with
     | true=>true
     | false=>hasCel r l)
   | .pel s _ _ _ _=>(match Nat.beq s r with
     | true=>true
     | false=>hasCel r l)
   | .psl s _ _ _ _ _ _=>(match Nat.beq s r with
     | true=>true
     | false=>hasCel r l)
   | _=>hasCel r l)
def hasRef (r:Nat):List A->Bool
 | []=>false
 | x::l=>(match (z4n x).contains r with
   | true=>true
   | false=>hasRef r l)
def ownRef (st:List A)(t:Nat):Bool:=match z4l st t with
 | true=>hasRef t st
 | false=>false
def z87 (E:Env)(st:List A)(t:Nat)(x:A):Bool:=z1i (z1i (Nat.blt t st.length) (!(E.lent.contains t))) (zwj st t x)
def slL (t:Nat)(l m r:List Nat):List Nat:=match l,m with
 | [],[]=>t::r
 | _,_=>r
def Cmd.cps {α β:Type} (E:Env):Cmd α->List A->FP->(α->List A->FP->Option β)->Option β
 | .ret a,st,fp,K=>K a st fp
 | .fail,_,_,_=>none
 | .get t k,st,fp,K=>(k (st.getD t .dead)).cps E st { fp with rd:=t::fp.rd,rr:=(z4n (st.getD t .dead)).append fp.rr } K
 | .set t x k,st,fp,K=>cond (z87 E st t x) (k.cps E (z5p st t x) { rd:=(z4n x).append ((z4n (st.getD t .dead)).append (t::fp.rd)),wr:=t::fp.wr,all:=fp.all || ownRef st t,ow:=t::fp.ow,ov:=fp.ov || (st.getD t .dead).own,bo:=(z1a9 x).append fp.bo,sl:=slL t (z4n x) (z4n (st.getD t .dead)) fp.sl,rr:=fp.rr } K) none
 | .cont r x k,st,fp,K=>cond (Nat.blt r st.length) (k.cps E (z1j st r x) { rd:=(z4n x).append ((z4n (st.getD r .dead)).append (r::fp.rd)),wr:=r::fp.wr,all:=fp.all || hasCel r st,ow:=cond x.own fp.ow (r::fp.ow),ov:=fp.ov,bo:=fp.bo,sl:=fp.sl,rr:=fp.rr } K) none
 | .retire r k,st,fp,K=>k.cps E (z97 st r) { rd:=r::fp.rd,wr:=r::fp.wr,all:=fp.all || hasRef r st,ow:=r::fp.ow,ov:=fp.ov,bo:=fp.bo,sl:=fp.sl,rr:=fp.rr } K
 | .test b x y,st,fp,K=>cond b (x.cps E st fp K) (y.cps E st fp K)
 | .call f args k,st,fp,K=>(E.fn f args).val.bind fun x=>(k ((E.fn f args).out x).1 ((E.fn f args).out x).2).cps E st fp K
 | .guard d x y z,st,fp,K=>match st.getD d .dead with
   | .v .bool b=>cond b (x.cps E (st.set d (.v .bool true)) { fp with rd:=d::fp.rd } K) (y.cps E (st.set d (.v .bool false)) { fp with rd:=d::fp.rd } K)
   | .tup []=>z.cps E st { fp with rd:=d::fp.rd } K
   | _=>none
def zox:Value->Option A
 | .bool b=>some (.v .bool b)
 | .int k n=>some (.v (.int k) n)
 | .string s=>some (.v .str s.data.toList)
 | .slice none 0 0=>some .nilsl
 | .agg _=>none
 | .tuple _=>none
 | v=>some (.v .opq v)
section
variable (E:Env) {α:Type}
def rdK (x:Operand) (k:A->Cmd α):Cmd α :=
 match x with
 | .tmp t=>.get t fun a=>match a with
   | .row .. | .box .. | .iter .. | .yld | .ov .. | .otup ..=>k (.bor t)
   | .dead=>.fail
   | a=>k a
 | .const v=>match zox v with
   | some a=>k a
   | none=>.fail
 | .global g=>match E.glob g with
   | some d=>k (.v (.ptr d.1) d.2)
   | none=>.fail
 | .func f=>k (.v .opq (.func (.func f) #[] #[]))
def z4o:(t:T)->t.den->List Step->(t':T)->t'.den->Option Dat
 | t,_,[],t',y=>(match Nat.beq t.size t'.size with
   | true=>some ⟨t',y⟩
   | false=>none)
 | .pair a b,x,.fld i::p,t',y=>match i with
   | 0=>match z4o a x.1 p t' y with
     | some d=>some ⟨.pair d.1 b,(d.2,x.2)⟩
     | none=>none
   | i+1=>match z4o b x.2 (.fld i::p) t' y with
     | some d=>some ⟨.pair a d.1,(x.1,d.2)⟩
     | none=>none
 | _,_,_,_,_=>none
def z116 (d:Dat)(k:(t:T)->List t.den->Cmd α):Cmd α:=match d with
 | ⟨.own t,xs⟩=>k t xs
 | _=>.fail
def zxq (r:Nat) (n:Nat) (p:List Step) (k:(t:T)->t.den->(u:T)->List u.den->Cmd α):Cmd α :=
 .get r fun b=>match b with
  | .box t x=>(match z1i (inb t x p) (Nat.beq n (z16 t p)) with
    | true=>z116 (foc t x p) fun u xs=>k t x u xs
    | false=>.fail)
  | _=>.fail
def z135:List Nat->(Dat->Cmd α)->Cmd α
 | [],k=>k ⟨.unit,()⟩
 | r :: rs,k=>.get r fun b=>match b with
   | .box t x=>(match noOwn t with
     | true=>.retire r (z135 rs fun d=>k ⟨.pair (.ptr t) d.1,(x,d.2)⟩)
     | false=>.fail)
   | _=>.fail
def z18g (a:A) (k:Dat->Cmd α):Cmd α :=
 match a with
 | .v t x=>k ⟨t,x⟩
 | .bor r=>.get r fun b=>match b with
   | .row t xs=>.retire r (k ⟨.sl t,xs⟩)
   | .ov t x=>(match z12w t with
     | true=>.retire r (k ⟨frz t,zra t x⟩)
     | false=>.fail)
   | _=>.fail
 | .cel r n p=>zxq r n p fun t x u xs=>match z4o t x p (.sl u) xs with
   | some z=>.cont r (.box z.1 z.2) (k ⟨.sl u,xs⟩)
   | none=>.fail
 | .clo f rs=>z135 rs fun d=>k ⟨.fn f d.1,d.2⟩
 | _=>.fail
def zx7 (a:A)(k:Dat->Cmd α):Cmd α:=z18g a fun d=>k (nrm d.1 d.2)
def zr0 (a:A) (k:Dat->Cmd α):Cmd α :=
 match a with
 | .v t x=>k ⟨t,x⟩
 | .bor r=>.get r fun b=>match b with
   | .row t xs=>k ⟨.sl t,xs⟩
   | _=>.fail
 | .cel r n p=>zxq r n p fun _ _ u xs=>k ⟨.sl u,xs⟩
 | _=>.fail
def zx0 (t:T)(x:t.den)(p:List Step):Bool:=match p with
 | []=>false
 | p=>inb t x p
def z14s (d:Dat)(k:Nat->(t:T)->List t.den->Cmd α):Cmd α:=match d with
 | ⟨.arr m t,xs⟩=>k m t xs
 | _=>.fail
def cut {α:Type}(xs:List α)(l h:Nat):List α:=(xs.take h).drop l
def z168 (a:A) (k:Dat->Cmd α):Cmd α :=
 match a with
 | .psl r n p u q lo hi=>zxq r n p fun _ _ u' xs=>(match cast (.sl u') (.sl u) xs with
   | some xs=>.test (zx0 (.arr 0 u) xs q) (z14s (foc (.arr 0 u) xs q) fun _ t zs=>k ⟨.sl t,cut zs lo hi⟩) .fail
   | none=>.fail)
 | a=>zr0 a k
def asK (t:T) (a:A) (k:t.den->Cmd α):Cmd α :=
 match t,a,k with
 | .sl _,.nilsl,k=>k []
 | t,a,k=>zx7 a fun d=>match cast d.1 t d.2 with
   | some x=>k x
   | none=>.fail
def teq' (t t':T):Bool:=decide (t=t')
def zun (a:A) (u:T) (k:u.den->Cmd α):Cmd α:=match a with
 | .bor s=>.get s fun c=>(match c with
   | .ov t x=>(match cast t u x with
     | some x=>.set s .dead (k x)
     | none=>.fail)
   | .row t xs=>(match u,k with
     | .own w,k=>(match cast (.sl t) (.sl w) xs with
       | some xs=>.set s .dead (k xs)
       | none=>.fail)
     | _,_=>.fail)
   | .box t x=>(match u,k with
     | .nb w,k=>(match cast t w x with
       | some x=>.set s .dead (k (some x))
       | none=>.fail)
     | _,_=>.fail)
   | _=>.fail)
 | .nilsl=>(match u,k with
   | .own _,k=>k []
   | _,_=>.fail)
 | .v .opq v=>(match u,v,k with
   | .mp _ _,.map none,k=>k none
   | .nb _,.pointer none,k=>k none
   | _,_,_=>.fail)
 | _=>.fail
def z7y:T->Bool
 | .pair a b=>z1i (z7y a) (z7y b)
 | .self _=>false
 | _=>true
def ovK (b a0:A) (k:Option (Nat×Nat)->Cmd α):Cmd α:=match b,a0 with
 | .bor s,.bor r=>.get s fun c=>.get r fun c'=>(match c,c' with
   | .ov t' _,.box t _=>(match z1i (teq' t t') (z1i (z7y t) (!(Nat.beq s r))) with
     | true=>k (some (s,r))
     | false=>k none)
   | _,_=>k none)
 | _,_=>k none
def mpK (a:A) (k:(p q:T)->Option (List (p.den×q.den))->(Option (List (p.den×q.den))->Cmd α->Cmd α)->Cmd α):Cmd α:=match a with
 | .bor r=>.get r fun c=>(match c with
   | .ov t x=>(match t,x with
     | .mp p q,m=>k p q m fun m' c=>.cont r (.ov (.mp p q) m') c
     | _,_=>.fail)
   | _=>.fail)
 | .cel r n p0=>.get r fun b=>(match b with
   | .box t x=>(match z1i (inb t x p0) (Nat.beq n (z16 t p0)) with
     | true=>(match foc t x p0 with
       | ⟨.mp p q,m⟩=>k p q m fun m' c=>(match z4o t x p0 (.mp p q) m' with
         | some z=>.cont r (.box z.1 z.2) c
         | none=>.fail)
       | _=>.fail)
     | false=>.fail)
   | _=>.fail)
 | _=>.fail
def z1a7 (a:A)(k:IntKind->Int->Cmd α):Cmd α :=
 match a with
 | .v (.int j) n=>k j n
 | _=>.fail
def tyK (i:TypeId)(k:TyI->Cmd α):Cmd α :=
 match E.ty i with
 | some e=>k e
 | none=>.fail
def lay (d:Option Nat)(a:A):Cmd Unit :=
 match d with
 | some d=>.set d a (.ret ())
 | none=>.ret ()
def z131 (r:Nat) (k:(t:T)->t.den->(t.den->A)->Cmd α):Cmd α :=
 .get r fun a=>match a with
  | .box t x=>k t x (.box t)
  | .row t xs=>k (.arr 0 t) xs (.row t)
  | _=>.fail
def z15q (p:List Step)(s:Step):List Step:=match p with
 | []=>[s]
 | a::p=>a::z15q p s
def teq (t t':T):Bool:=decide (t=t')
def ownS:T->T->Bool
 | .byt _,.int .u8=>true
 | u,v=>teq u v
def zs7:T->T->Bool
 | .pair a b,.pair c d=>z1i (zs7 a c) (zs7 b d)
 | .own u,.sl v=>ownS u v
 | .any,e=>z1i (Nat.beq e.size 1) (!e.isAgg)
 | .self _,.opq=>true
 | .mp _ _,.opq=>true
 | .nb _,.opq=>true
 | t,e=>teq t e
def znj (i:TypeId):T->Bool
 | .pair a b=>z1i (znj i a) (znj i b)
 | .self ty=>Nat.beq i ty
 | _=>true
def zex:(t e:T)->e.den->Option t.den
 | .pair a b,.pair c d,x=>match zex a c x.1 with
   | some y=>(match zex b d x.2 with
     | some z=>some (y,z)
     | none=>none)
   | none=>none
 | .own _,.sl _,x=>(match x with
   | []=>some []
   | _=>none)
 | .self _,.opq,x=>(match x with
   | .pointer none=>some ()
   | _=>none)
 | .mp _ _,.opq,x=>(match x with
   | .map none=>some none
   | _=>none)
 | .nb _,.opq,x=>(match x with
   | .pointer none=>some none
   | _=>none)
 | t,e,x=>cast e t x
def zu (op:BinOp)(k:IntKind)(x y:Int):Int :=
 match op with
 | .and=>k.wrap ((BitVec.ofInt k.bits x &&& BitVec.ofInt k.bits y).toNat:Int)
 | .or=>k.wrap ((BitVec.ofInt k.bits x ||| BitVec.ofInt k.bits y).toNat:Int)
 | .xor=>k.wrap ((BitVec.ofInt k.bits x ^^^ BitVec.ofInt k.bits y).toNat:Int)
 | _=>k.wrap ((BitVec.ofInt k.bits x &&& ~~~ BitVec.ofInt k.bits y).toNat:Int)
def zkq (k:IntKind)(x y:Int):Int:=k.wrap (x*2^(min y.toNat k.bits))
def zaw (k:IntKind)(x y:Int):Int:=x.fdiv (2^(min y.toNat k.bits))
def zvj (op:BinOp) (k:IntKind) (a:Int) (k':IntKind) (b:Int) (d:Option Nat):Cmd Unit :=
 match op with
 | .shl=>.test (decide (0<=b)) (lay d (.v (.int k) (zkq k a b))) .fail
 | .shr=>.test (decide (0<=b)) (lay d (.v (.int k) (zaw k a b))) .fail
 | op=>match decide (k=k') with
   | false=>.fail
   | true=>match op with
     | .add=>lay d (.v (.int k) (k.wrap (a+b)))
     | .sub=>lay d (.v (.int k) (k.wrap (a - b)))
     | .mul=>(match k with
       | .u64=>lay d (.v (.int .u64) (IntKind.wrap .u64 (b*a)))
       | k=>lay d (.v (.int k) (k.wrap (a*b))))
     | .quo=>.test (b == 0) .fail (lay d (.v (.int k) (k.wrap (a.tdiv b))))
     | .rem=>.test (b == 0) .fail (lay d (.v (.int k) (a.tmod b)))
     | .and=>lay d (.v (.int k) (zu .and k a b))
     | .or=>lay d (.v (.int k) (zu .or k a b))
     | .xor=>lay d (.v (.int k) (zu .xor k a b))
     | .andNot=>lay d (.v (.int k) (zu .andNot k a b))
     | .eql=>lay d (.v .bool (a == b))
     | .neq=>lay d (.v .bool (a != b))
     | .lss=>lay d (.v .bool (decide (a<b)))
     | .leq=>lay d (.v .bool (decide (a<=b)))
     | .gtr=>lay d (.v .bool (decide (b<a)))
     | .geq=>lay d (.v .bool (decide (b<=a)))
     | _=>.fail
def maxLenI:Nat:=9223372036854775807
def zy7 (op:BinOp)(x y:List UInt8)(d:Option Nat):Cmd Unit :=
 match op with
 | .add=>.test (decide (x.length+y.length<=9223372036854775807)) (lay d (.v .str (x++y))) .fail
 | .eql=>lay d (.v .bool (x == y))
 | .neq=>lay d (.v .bool (!(x == y)))
 | .lss=>lay d (.v .bool (Op.bytesLess x y))
 | .leq=>lay d (.v .bool (Op.bytesLess x y || x == y))
 | .gtr=>lay d (.v .bool (!(Op.bytesLess x y || x == y)))
 | .geq=>lay d (.v .bool (!(Op.bytesLess x y)))
 | _=>.fail
def z10q (op:BinOp)(x y:Bool)(d:Option Nat):Cmd Unit :=
 match op with
 | .eql=>lay d (.v .bool (x == y))
 | .neq=>lay d (.v .bool (!(x == y)))
 | _=>.fail
def zg4 (E:Env)(i:TypeId):Bool:=match E.ty i with
 | some e=>(match e.desc with | .bool=>true|_=>false)
 | none=>false
def zja (d:TypeDesc):Bool:=match d with
 | .string=>true
 | _=>false
def zr2 (E:Env)(i:TypeId):Bool:=match E.ty i with
 | some e=>(match e.desc with | .pointer _=>true|_=>false)
 | none=>false
def zzu (E:Env)(i:TypeId):Bool:=match E.ty i with
 | some e=>(match e.desc with | .map _ _=>true|_=>false)
 | none=>false
def zzv (E:Env)(i:TypeId):Bool:=match E.ty i with
 | some e=>(match e.desc with | .interface _=>true|_=>false)
 | none=>false
def zp3 (x:Operand):Bool:=match x with
 | .const _=>true
 | _=>false
def zmx (v:Value):Bool:=match v with
 | .nilIface=>true
 | .iface _ _=>true
 | _=>false
def znz (v:Value):Bool:=match v with
 | .nilIface=>true
 | _=>false
def zfj:(u:T)->u.den->Option (List Value)
 | .int k,n=>some [.int k n]
 | .bool,b=>some [.bool b]
 | .str,s=>some [.string ⟨⟨s⟩⟩]
 | .unit,_=>some []
 | .pair a b,x=>match zfj a x.1,zfj b x.2 with
   | some l,some r=>some (l++r)
   | _,_=>none
 | _,_=>none
def valD (u:T)(x:u.den):Option Value:=match u.isAgg,zfj u x with
 | true,some l=>some (.agg l.toArray)
 | false,some [v]=>some v
 | _,_=>none
def za1 (op:BinOp)(d:Option Nat)(same:Bool):Cmd Unit :=
 match op with
 | .eql=>lay d (.v .bool same)
 | .neq=>lay d (.v .bool (!same))
 | _=>.fail
def zvr {α:Type}(f:α->α->Bool):List α->List α->Bool
 | [],[]=>true
 | x::xs,y::ys=>cond (f x y) (zvr f xs ys) false
 | _,_=>false
def eqD:(t:T)->t.den->t.den->Bool
 | .int _,x,y=>x == y
 | .bool,x,y=>x == y
 | .str,x,y=>x == y
 | .pair a b,x,y=>cond (eqD a x.1 y.1) (eqD b x.2 y.2) false
 | .arr _ t,xs,ys=>zvr (eqD t) xs ys
 | _,_,_=>true
def z2l (E:Env):(u:T)->TypeId ⊕ (List Field×Nat)->Bool
 | .int k,.inl i=>match E.ty i with
   | some e=>z1i (teq e.t (.int k)) (match e.desc with
     | .int _=>true
     | _=>false)
   | none=>false
 | .bool,.inl i=>zg4 E i
 | .str,.inl i=>match E.ty i with
   | some e=>zja e.desc
   | none=>false
 | .unit,.inl i=>match E.ty i with
   | some e=>z1i (z1i e.cmp (teq e.t .unit)) (match e.desc with
     | .struct fs=>Nat.beq fs.size 0
     | _=>false)
   | none=>false
 | .unit,.inr p=>match p.1 with
   | []=>true
   | _=>false
 | .pair a b,.inl i=>match E.ty i with
   | some e=>z1i (z1i e.cmp (teq e.t (.pair a b))) (match e.desc with
     | .struct fs=>(match fs.toList with
       | f :: r => z1i (z1i (z2l E a (.inl f.type)) (z2l E b (.inr (r, a.size)))) (z1i (f.name != "_") (z1i (Nat.beq f.offset 0) (match E.ty f.type with
         | some g=>teq g.t a
         | none=>false)))
       | []=>false)
     | _=>false)
   | none=>false
 | .pair a b,.inr p=>match p.1 with
   | f :: r => z1i (z1i (z2l E a (.inl f.type)) (z2l E b (.inr (r, p.2 + a.size)))) (z1i (f.name != "_") (z1i (Nat.beq f.offset p.2) (match E.ty f.type with
     | some g=>teq g.t a
     | none=>false)))
   | []=>false
 | .arr n u,.inl i=>match E.ty i with
   | some e=>z1i (z1i e.cmp (teq e.t (.arr n u))) (match e.desc with
     | .array m el=>z1i (Nat.beq n m) (z1i (z2l E u (.inl el)) (match E.ty el with
       | some g=>teq g.t u
       | none=>false))
     | _=>false)
   | none=>false
 | _,_=>false
def z4f:T->Nat
 | .pair a b=>z4f a+z4f b+1
 | .arr _ t=>z4f t+1
 | _=>1
def z14j (E:Env) (op:BinOp) (i:TypeId) (t:T) (x:t.den) (u:T) (y:u.den) (d:Option Nat):Cmd Unit :=
 match E.ty i with
 | some e=>(match z1i (z1i (teq e.t t) (z2l E t (.inl i))) (z1i (z1i e.cmp t.isAgg) (Nat.blt (z4f t) 9999)) with
   | true=>(match cast u t y with
     | some y=>za1 op d (eqD t x y)
     | none=>.fail)
   | false=>.fail)
 | none=>.fail
def z14g (op:BinOp) (xT:TypeId) (x y:Operand) (d:Option Nat):Cmd Unit :=
 rdK E x fun a=>rdK E y fun b =>
  match a,b with
  | .v (.int k) m,.v (.int k') n=>zvj op k m k' n d
  | .v .str s,.v .str u=>zy7 op s u d
  | .v .bool s,.v .bool u=>match zg4 E xT with
    | true=>z10q op s u d
    | false=>.fail
  | .bor r,.v .opq (.pointer none)=>.get r fun c=>match c with
    | .box ..=>(match zr2 E xT with
      | true=>za1 op d false
      | false=>.fail)
    | .ov t x=>(match zr2 E xT with
      | true=>(match t,x with
        | .nb u,m=>.test m.isSome (.cont r (.box u (m.getD u.dflt)) (za1 op d false)) (.cont r (.ov (.nb u) none) (.retire r (za1 op d true)))
        | _,_=>.fail)
      | false=>.fail)
    | _=>.fail
  | a,.v .opq (.map none)=>(match zzu E xT with
    | true=>mpK a fun _ _ m _=>za1 op d (!m.isSome)
    | false=>.fail)
  | .v .opq (.pointer none),.v .opq (.pointer none)=>match zr2 E xT with
    | true=>za1 op d true
    | false=>.fail
  | .v .opq e,.v .opq .nilIface=>(match z1i (zzv E xT) (zp3 y) with
    | true=>.test (zmx e) (za1 op d (znz e)) .fail
    | false=>.fail)
  | .v t x,.v u y=>z14j E op xT t x u y d
  | _,_=>.fail
def z1ar (op:UnOp) (x:Operand) (d:Option Nat):Cmd Unit :=
 rdK E x fun a =>
  match op,a with
  | .not,.v .bool b=>lay d (.v .bool (!b))
  | .neg,.v (.int k) n=>lay d (.v (.int k) (k.wrap (0 - n)))
  | .xor,.v (.int k) n=>lay d (.v (.int k) (zu .xor k (if k.signed then -1 else k.max) n))
  | _,_=>.fail
def slIs (w e:T):Bool:=match e with
 | .sl v=>ownS w v
 | _=>false
def z13y (t:T) (y:t.den) (e:T) (d:Option Nat):Cmd Unit:=match t,y with
 | .fn f u,y=>(match teq e .opq with
   | true=>lay d (.v (.fn f u) y)
   | false=>.fail)
 | _,_=>.fail
def zt4 (ty : TypeId) (x:Operand) (d:Option Nat):Cmd Unit :=
 tyK E ty fun e=>rdK E x fun a =>
  match a with
  | .v (.ptr t) y=>match teq t e.t with
    | true=>lay d (.v t y)
    | false=>z13y t y e.t d
  | .bor r=>.get r fun c=>match c with
    | .box t y=>(match teq t e.t with
      | true=>lay d (.v t y)
      | false=>(match t with
        | .own u=>(match slIs u e.t with
          | true=>lay d (.cel r 0 [])
          | false=>.fail)
        | t=>(match teq (frz t) e.t with
          | true=>.cont r (.box (frz t) (zra t y)) (lay d (.v (frz t) (zra t y)))
          | false=>.fail)))
    | _=>.fail
  | .adr r t p=>z131 r fun t' y _=>match cast t' t y with
    | some y=>(match z1d t p with
      | some u=>(match teq u e.t with
        | true=>.test (zx0 t y p) (lay d (.v (foc t y p).1 (foc t y p).2)) .fail
        | false=>(match u with
          | .own w=>(match slIs w e.t with
            | true=>.test (zx0 t y p) (lay d (.cel r (z16 t p) p)) .fail
            | false=>.fail)
          | .mp _ _=>(match teq e.t .opq with
            | true=>.test (zx0 t y p) (lay d (.cel r (z16 t p) p)) .fail
            | false=>.fail)
          | _=>.fail))
      | none=>.fail)
    | none=>.fail
  | .pel r n p u q=>zxq r n p fun t y u' xs=>(match cast (.sl u') (.sl u) xs with
    | some xs=>(match z1d (.arr 0 u) q with
      | some v=>(match teq v e.t with
        | true=>.test (zx0 (.arr 0 u) xs q) (lay d (.v (foc (.arr 0 u) xs q).1 (foc (.arr 0 u) xs q).2)) .fail
        | false=>.fail)
      | none=>.fail)
    | none=>.fail)
  | _=>.fail
def zzj (u:T) (ty:TypeId) (x:Operand) (d:Option Nat):Cmd Unit :=
 tyK E ty fun e=>rdK E x fun a=>match a with
  | .bor r=>.get r fun c=>(match c with
    | .box t y=>(match z1i (teq t u) (z1i (zs7 t e.t) (z1i t.isAgg (z7y t))) with
      | true=>.cont r (.box (fgt t) (z104 t y)) (lay d (.ov t y))
      | false=>.fail)
    | _=>.fail)
  | _=>.fail
def slot (t:T):Bool:=match t with
 | .own _=>true
 | .any=>true
 | _=>false
def z15r (a:A) (k:Option (Nat×List Step)->Cmd α):Cmd α:=match a with
 | .bor r=>.get r fun c=>match c with
   | .box t _=>(match slot t with
     | true=>k (some (r,[]))
     | false=>k none)
   | _=>k none
 | .adr r t p=>(match z1d t p with
   | some u=>(match slot u with
     | true=>k (some (r,p))
     | false=>k none)
   | none=>k none)
 | _=>k none
def z11q (a:A) (u:T) (k:List u.den->Cmd α):Cmd α:=match a with
 | .nilsl=>k []
 | .bor s=>.get s fun c=>match c with
   | .row t xs=>(match cast (.sl t) (.sl u) xs with
     | some xs=>.set s .dead (k xs)
     | none=>.fail)
   | _=>.fail
 | _=>.fail
def z18f (a:A) (u:T) (k:T->Cmd α):Cmd α:=match a with
 | .bor s=>.get s fun c=>match c with
   | .row (.byt q) _=>(match teq u (.int .u8) with
     | true=>k (.byt q)
     | false=>k u)
   | _=>k u
 | _=>k u
def z13r:T->Option T
 | .sl u=>some u
 | _=>none
def ovF (b a0:A) (k:Option (Nat×Nat×List Step)->Cmd α):Cmd α:=match b,a0 with
 | .bor s,.adr r t0 p=>.get s fun c=>.get r fun c'=>(match c,c' with
   | .ov t' _,.box t y=>(match z1i (z1i (inb t y p) (Nat.beq (z16 t0 p) (z16 t p))) (z1i (teq' (foc t y p).1 t') (z1i (z7y t') (!(Nat.beq s r)))) with
     | true=>k (some (s,r,p))
     | false=>k none)
   | _,_=>k none)
 | _,_=>k none
def zup (ty : TypeId) (x:Operand) (v:Operand):Cmd Unit :=
 tyK E ty fun e=>rdK E x fun a0=>z15r a0 fun o=>match o with
 | some (r,p)=>(match z13r e.t with
   | some u0=>rdK E v fun b=>z18f b u0 fun u=>z11q b u fun xs=>.get r fun c=>(match c with
     | .box t y=>(match z1i (inb t y p) (slot (foc t y p).1) with
       | true=>(match z4o t y p (.own u) xs with
         | some z=>.test (match a0 with
           | .adr _ t0 _=>Nat.beq (z16 t0 p) (z16 t p)
           | _=>true) (.cont r (.box z.1 z.2) (.ret ())) .fail
         | none=>.fail)
       | false=>.fail)
     | _=>.fail)
   | none=>.fail)
 | none=>rdK E v fun b=>ovF b a0 fun mf=>match mf with
 | some (s,r,p)=>.get s fun c=>.get r fun c'=>(match c,c' with
   | .ov t' z,.box t y=>(match zs7 t' e.t with
     | true=>(match z4o t y p t' z with
       | some z'=>.set s .dead (.cont r (.box z'.1 z'.2) (.ret ()))
       | none=>.fail)
     | false=>.fail)
   | _,_=>.fail)
 | none=>ovK b a0 fun m=>match m with
 | some (s,r)=>.get s fun c=>(match c with
   | .ov t z=>(match zs7 t e.t with
     | true=>.set s .dead (.cont r (.box t z) (.ret ()))
     | false=>.fail)
   | _=>.fail)
 | none=>asK e.t b fun z=>rdK E x fun a =>
   match a with
   | .bor r=>.get r fun c=>match c with
     | .box t _=>(match cast e.t t z with
       | some z=>.cont r (.box t z) (.ret ())
       | none=>.fail)
     | _=>.fail
   | .pel r n p u q=>zxq r n p fun t y u' xs=>(match cast (.sl u') (.sl u) xs with
     | some xs=>.test (zx0 (.arr 0 u) xs q) (match z7d (.arr 0 u) xs q e.t z with
       | some xs'=>(match z4o t y p (.own u) xs' with
         | some z'=>.cont r (.box z'.1 z'.2) (.ret ())
         | none=>.fail)
       | none=>.fail) .fail
     | none=>.fail)
   | .adr r t p=>z131 r fun t' y mk=>match cast t' t y with
     | some y=>.test (zx0 t y p) (match z7d t y p e.t z with
       | some y'=>(match cast t t' y' with
         | some y'=>.cont r (mk y') (.ret ())
         | none=>.fail)
       | none=>.fail) .fail
     | none=>.fail
   | _=>.fail
def fieldsOf (d:TypeDesc):Option (Array Field):=match d with
 | .struct fs=>some fs
 | _=>none
def zii (E:Env) (e:TyI) (f:Nat):Bool:=match fieldsOf e.desc with
 | some fs=>match fs[f]? with
   | some g=>match E.ty g.type with
     | some eg=>z1i (z1i (Nat.beq (z16 e.t [.fld f]) g.offset) (!(Nat.beq eg.size 0))) (match z1d e.t [.fld f] with
       | some u=>teq u eg.t
       | none=>false)
     | none=>false
   | none=>false
 | none=>false
def zjf (s:TypeId) (x:Operand) (f:Nat) (d:Option Nat):Cmd Unit :=
 tyK E s fun e=>match zii E e f with
  | false=>.fail
  | true=>rdK E x fun a =>
    match a with
    | .v (.ptr t) y=>(match cast t e.t y with
      | some y=>lay d (.v (.ptr (foc e.t y [.fld f]).1) (foc e.t y [.fld f]).2)
      | none=>.fail)
    | .bor r=>.get r fun c=>match c with
      | .box t _=>(match zs7 t e.t with
        | true=>lay d (.adr r t [.fld f])
        | false=>.fail)
      | _=>.fail
    | .adr r t p=>(match z1d t p with
      | some u=>(match zs7 u e.t with
        | true=>lay d (.adr r t (z15q p (.fld f)))
        | false=>.fail)
      | none=>.fail)
    | .pel r n p u q=>(match z1d (.arr 0 u) q with
      | some v=>(match teq v e.t with
        | true=>lay d (.pel r n p u (z15q q (.fld f)))
        | false=>.fail)
      | none=>.fail)
    | _=>.fail
def zvq (s:TypeId) (x:Operand) (f:Nat) (d:Option Nat):Cmd Unit :=
 tyK E s fun e=>match zii E e f with
  | false=>.fail
  | true => rdK E x fun a =>
    match a with
    | .v t y=>(match cast t e.t y with
      | some y=>lay d (.v (foc e.t y [.fld f]).1 (foc e.t y [.fld f]).2)
      | none=>.fail)
    | .bor s=>.get s fun c=>(match c with
      | .ov t y=>(match z1i t.isAgg (z1i (inb t y [.fld f]) (Nat.beq (z16 t [.fld f]) (z16 e.t [.fld f]))) with
        | true=>z116 (foc t y [.fld f]) fun u xs=>(match z1d e.t [.fld f] with
          | some u'=>(match teq u' (.sl u) with
            | true=>.set s .dead (lay d (.row u xs))
            | false=>.fail)
          | none=>.fail)
        | false=>.fail)
      | _=>.fail)
    | _=>.fail
def inR (n:Int)(len:Nat):Bool:=decide (0<=n/\n<len)
def z78 (E:Env) (e:TyI) (t:T):Bool:=match e.desc with
 | .slice el=>(match E.ty el with
   | some ee=>teq ee.t (unT t)
   | none=>false)
 | .array _ el=>(match E.ty el with
   | some ee=>teq ee.t t
   | none=>false)
 | _=>false
def zs3 (d:TypeDesc):Option Nat:=match d with
 | .array n _=>some n
 | _=>none
def z1a6 (d:TypeDesc):Bool:=match d with
 | .slice _=>true
 | _=>false
def zjc (ty:TypeId) (x ix:Operand) (d:Option Nat):Cmd Unit :=
 tyK E ty fun e=>rdK E ix fun i=>z1a7 i fun _ n=>rdK E x fun a =>
  match z1a6 e.desc,zs3 e.desc,a with
  | true,_,.v (.sl t) xs=>(match z78 E e t with
    | true=>.test (inR n xs.length) (lay d (.v (.ptr (unT t)) (unD t (xs.getD n.toNat t.dflt)))) .fail
    | false=>.fail)
  | true,_,.bor r=>.get r fun c=>(match c with
    | .row t xs=>(match z78 E e t with
      | true=>.test (inR n xs.length) (lay d (.adr r (.arr 0 t) [.idx n.toNat])) .fail
      | false=>.fail)
    | _=>.fail)
  | _,some m,.v (.ptr (.arr m' t)) xs=>(match z1i (Nat.beq m m') (z78 E e t) with
    | true=>.test (inR n m) (lay d (.v (.ptr t) (xs.getD n.toNat t.dflt))) .fail
    | false=>.fail)
  | _,some m,.bor r=>.get r fun c=>(match c with
    | .box (.arr m' t) _=>(match z1i (Nat.beq m m') (z78 E e t) with
      | true=>.test (inR n m) (lay d (.adr r (.arr m' t) [.idx n.toNat])) .fail
      | false=>.fail)
    | _=>.fail)
  | _,some m,.adr r t p=>(match z1d t p with
    | some (.arr m' u)=>(match z1i (Nat.beq m m') (z78 E e u) with
      | true=>.test (inR n m) (lay d (.adr r t (z15q p (.idx n.toNat)))) .fail
      | false=>.fail)
    | _=>.fail)
  | true,_,.cel r n0 p=>zxq r n0 p fun _ _ u xs=>(match z78 E e u with
    | true=>.test (inR n xs.length) (lay d (.pel r n0 p u [.idx n.toNat])) .fail
    | false=>.fail)
  | _,some m,.pel r n0 p u q=>(match z1d (.arr 0 u) q with
    | some (.arr m' u')=>(match z1i (Nat.beq m m') (z78 E e u') with
      | true=>.test (inR n m) (lay d (.pel r n0 p u (z15q q (.idx n.toNat)))) .fail
      | false=>.fail)
    | _=>.fail)
  | _,_,_=>.fail
def zvk (ty:TypeId) (x ix:Operand) (d:Option Nat):Cmd Unit :=
 tyK E ty fun e=>rdK E ix fun i=>z1a7 i fun _ n=>rdK E x fun a =>
  match zja e.desc,zs3 e.desc,a with
  | true,_,.v .str s=>.test (inR n s.length) (lay d (.v (.int .u8) ((s.getD n.toNat 0).toNat:Int))) .fail
  | _,some m,.v (.arr m' t) xs=>(match z1i (Nat.beq m m') (z78 E e t) with
    | true=>.test (inR n m) (lay d (.v t (xs.getD n.toNat t.dflt))) .fail
    | false=>.fail)
  | _,_,_=>.fail
def zdj (t:T) (x:t.den):List (Nat×Dat)->(Nat->Step)->Option t.den
 | [],_=>some x
 | (i,d)::r,s=>match z7d t x [s i] d.1 d.2 with
   | some y=>zdj t y r s
   | none=>none
def zv6:List (Nat×Operand)->(List (Nat×A)->Cmd α)->Cmd α
 | [],k=>k []
 | (i,x)::r,k=>rdK E x fun a=>zv6 r fun l=>k ((i,a)::l)
def z13b (t:T) (s:Nat->Step):List (Nat×A)->(List (Nat×Dat)->Cmd α)->Cmd α
 | [],k=>k []
 | (i,a)::r,k=>match z1d t [s i] with
   | some u=>asK u a fun z=>z13b t s r fun l=>k ((i,⟨u,z⟩)::l)
   | none=>.fail
def zv9 (t:T)(s:Nat->Step)(ps:List (Nat×Operand))(k:List (Nat×Dat)->Cmd α):Cmd α :=
 zv6 E ps fun l=>z13b t s l k
def zk2 (E:Env)(e:TyI):List Nat->Bool
 | []=>true
 | f::r=>z1i (zii E e f) (zk2 E e r)
def zx1 (n:Nat):List Nat->Bool
 | []=>true
 | f::r=>z1i (Nat.blt f n) (zx1 n r)
def zpj (ty:TypeId) (parts:List (Nat×Operand)) (d:Option Nat):Cmd Unit :=
 tyK E ty fun e=>match e.desc with
  | .struct fs=>(match z1i (zx1 fs.size (parts.map (·.1))) (zk2 E e (List.range fs.size)) with
    | true=>zv9 E e.t .fld parts fun l=>(match zdj e.t e.zero l .fld with
      | some x=>lay d (.v e.t x)
      | none=>.fail)
    | false=>.fail)
  | .array n _=>(match z1i (zx1 n (parts.map (·.1))) (match e.t with
     | .arr m t=>z1i (Nat.beq n m) (z78 E e t)
     | _=>false) with
    | true=>zv9 E e.t .idx parts fun l=>(match zdj e.t e.zero l .idx with
      | some x=>lay d (.v e.t x)
      | none=>.fail)
    | false=>.fail)
  | _=>.fail
def zqr (t:T) (s:Nat->Step):List (Nat×Operand)->(List (Nat×Operand×Option Dat)->Cmd α)->Cmd α
 | [],k=>k []
 | (i,x)::r,k=>match z1d t [s i] with
   | some u=>(match noOwn u with
     | true=>rdK E x fun a=>asK u a fun z=>zqr t s r fun l=>k ((i,x,some ⟨u,z⟩)::l)
     | false=>zqr t s r fun l=>k ((i,x,none)::l))
   | none=>.fail
def zno (t:T) (s:Nat->Step):List (Nat×Operand×Option Dat)->(List (Nat×Dat)->Cmd α)->Cmd α
 | [],k=>k []
 | (i,x,y)::r,k=>match y with
   | some d=>zno t s r fun l=>k ((i,d)::l)
   | none=>(match z1d t [s i] with
     | some u=>rdK E x fun a=>zun a u fun z=>zno t s r fun l=>k ((i,⟨u,z⟩)::l)
     | none=>.fail)
def ztr (u:T) (ty:TypeId) (parts:List (Nat×Operand)) (d:Option Nat):Cmd Unit :=
 tyK E ty fun e=>match e.desc with
  | .struct fs=>(match z1i (z1i u.isAgg (z1i (z7y u) (zs7 u e.t))) (z1i (zx1 fs.size (parts.map (·.1))) (zk2 E e (List.range fs.size))) with
    | true=>(match zex u e.t e.zero with
      | some z0=>zqr E u .fld parts fun l1=>zno E u .fld l1 fun l=>(match zdj u z0 l .fld with
        | some x=>lay d (.ov u x)
        | none=>.fail)
      | none=>.fail)
    | false=>.fail)
  | _=>.fail
def zhi (ty:TypeId) (len:Nat) (parts:List (Nat×Operand)) (d:Option Nat):Cmd Unit :=
 tyK E ty fun e=>match e.desc with
  | .slice el=>tyK E el fun ee=>(match z1i (zx1 len (parts.map (·.1))) (z1i (Nat.blt 0 ee.size) (Nat.ble (len*ee.size) 65536)) with
    | true=>zv9 E (.arr len ee.t) .idx parts fun l=>(match zdj (.arr len ee.t) (List.replicate len ee.zero) l .idx with
      | some x=>lay d (.row ee.t x)
      | none=>.fail)
    | false=>.fail)
  | _=>.fail
def zj7 (ty:TypeId) (l c:Operand) (d:Option Nat):Cmd Unit :=
 tyK E ty fun e=>match e.desc with
  | .slice el=>tyK E el fun ee=>rdK E l fun a=>rdK E c fun b=>(match a,b with
    | .v (.int .i64) m,.v (.int .i64) n=>(match Nat.blt 0 ee.size with
      | true=>.test (decide (0<=m/\m<=n/\n*(ee.bytes:Int)<=281474976710656/\n<=9223372036854775807)) (lay d (.row ee.t (List.replicate m.toNat ee.zero))) .fail
      | false=>.fail)
    | _,_=>.fail)
  | _=>.fail
def z160 (x:Option Operand)(k:Option Int->Cmd α):Cmd α :=
 match x with
 | none=>k none
 | some x=>rdK E x fun a=>z1a7 a fun _ n=>k (some n)
def zxr (lo hi:Option Int)(n:Nat)(k:Nat->Nat->Cmd α):Cmd α :=
 match lo,hi with
 | none,none=>k 0 n
 | some l,none=>.test (decide (0<=l/\l<=(n:Int))) (k l.toNat n) .fail
 | none,some h=>.test (decide (0<=h/\h<=(n:Int))) (k 0 h.toNat) .fail
 | some l,some h=>.test (decide (0<=h/\h<=(n:Int))) (.test (decide (0<=l/\l<=h)) (k l.toNat h.toNat) .fail) .fail
def zuv (ty : TypeId) (x:Operand) (lo hi mx:Option Operand) (d:Option Nat):Cmd Unit :=
 match mx with
 | some mx=>tyK E ty fun e=>z160 E lo fun l=>z160 E hi fun h=>rdK E mx fun z=>z1a7 z fun _ mxn=>rdK E x fun a=>(match z1a6 e.desc with
   | true=>zx7 a fun z=>(match z with
     | ⟨.sl t,xs⟩=>(match z78 E e t with
       | true=>(match h with
         | some h=>.test (decide (h<=mxn/\mxn<=(xs.length:Int))) (zxr l (some h) xs.length fun i j=>lay d (.v (.sl t) (cut xs i j))) .fail
         | none=>.fail)
       | false=>.fail)
     | _=>.fail)
   | false=>.fail)
 | none => tyK E ty fun e=>z160 E lo fun l=>z160 E hi fun h=>rdK E x fun a =>
   match zja e.desc,z1a6 e.desc with
   | true,_=>(match a with
     | .v .str s=>zxr l h s.length fun i j=>lay d (.v .str (cut s i j))
     | _=>.fail)
   | _,true=>(match a,d.bind E.boxT with
     | .cel r n p,some (.own _)=>zxq r n p fun t z u xs=>(match z78 E e u with
       | true=>zxr l h xs.length fun i j=>(match z1i (Nat.beq i 0) (Nat.beq j 0) with
         | true=>(match z4o t z p .any () with
           | some q=>.cont r (.box q.1 q.2) (lay d (.row u []))
           | none=>.fail)
         | false=>.fail)
       | false=>.fail)
     | _,_=>zx7 a fun z=>(match z with
       | ⟨.sl t,xs⟩=>(match z78 E e t with
         | true=>zxr l h xs.length fun i j=>lay d (.v (.sl t) (cut xs i j))
         | false=>.fail)
       | _=>.fail))
   | _,_=>(match zs3 e.desc,a with
     | some m,.pel r n p u q=>(match z1d (.arr 0 u) q with
       | some (.arr m' t)=>(match z1i (Nat.beq m m') (z78 E e t) with
         | true=>zxr l h m fun i j=>lay d (.psl r n p u q i j)
         | false=>.fail)
       | _=>.fail)
     | _,_=>.fail)
def z43 (xs:List Int):List UInt8:=xs.map fun n=>UInt8.ofNat n.toNat
def z4p (s:List UInt8):List Int:=s.map fun b=>(b.toNat:Int)
def zh2 (E:Env) (d:TypeDesc):Bool:=match d with
 | .slice el=>(match E.ty el with
   | some ee=>(match ee.desc with | .int .u8=>true|_=>false)
   | none=>false)
 | _=>false
def z10h (src dst:TypeId) (x:Operand) (d:Option Nat):Cmd Unit :=
 tyK E src fun s=>tyK E dst fun e=>rdK E x fun a =>
  match e.desc,a with
  | .int k,.v (.int _) n=>lay d (.v (.int k) (k.wrap n))
  | .string,.v .str u=>lay d (.v .str u)
  | .string,a=>(match zh2 E s.desc with
    | true=>(match a with
      | .nilsl=>lay d (.v .str [])
      | a=>z168 a fun z=>match z with
        | ⟨.sl (.int .u8),xs⟩=>lay d (.v .str (z43 xs))
        | _=>.fail)
    | false=>.fail)
  | .slice _,.v .str u=>(match z1i (zja s.desc) (zh2 E e.desc) with
    | true=>lay d (.row (.int .u8) (z4p u))
    | false=>.fail)
  | .slice _,.bor r=>(match z1i (Nat.beq src dst) (zh2 E e.desc) with
    | true=>.get r fun b=>(match b with
      | .row (.int .u8) xs=>(match Nat.blt 0 xs.length with
        | true=>.cont r (.row (.int .u8) xs) (zx7 (.bor r) fun z=>lay d (.v z.1 z.2))
        | false=>.fail)
      | _=>.fail)
    | false=>.fail)
  | _,_=>.fail
def isMp (d:TypeDesc):Bool:=match d with
 | .map _ _=>true
 | _=>false
def z8u:T->Bool
 | .int _=>true
 | .bool=>true
 | .str=>true
 | .unit=>true
 | .pair a b=>z1i (z8u a) (z8u b)
 | .arr _ t=>z8u t
 | _=>false
def zt0 (E:Env) (ty:TypeId):Option (TypeId×TyI×TyI):=match E.ty ty with
 | some e=>(match e.desc with
   | .map ki vi=>(match E.ty ki,E.ty vi with
     | some ke,some ve=>(match z1i (z8u ke.t) (z1i (Nat.blt (z4f ke.t) 9999) (z1i (noOwn ve.t) (z2l E ke.t (.inl ki)))) with
       | true=>some (ki,ke,ve)
       | false=>none)
     | _,_=>none)
   | _=>none)
 | none=>none
def zg2 {α β:Type} (f:α->α->Bool) (k:α):List (α×β)->Option β
 | []=>none
 | x::xs=>match f k x.1 with
   | true=>some x.2
   | false=>zg2 f k xs
def z13t {α β:Type} (f:α->α->Bool) (k:α) (v:β):List (α×β)->List (α×β)
 | []=>[(k,v)]
 | x::xs=>match f k x.1 with
   | true=>(k,v)::xs
   | false=>x::z13t f k v xs
def z14c {α β:Type} (f:α->α->Bool) (k:α):List (α×β)->List (α×β)
 | []=>[]
 | x::xs=>match f k x.1 with
   | true=>xs
   | false=>x::z14c f k xs
def znv (ty:TypeId)(hint:Option Operand)(d:Option Nat):Cmd Unit :=
 match zt0 E ty with
 | some (_,ke,ve)=>z160 E hint fun _=>lay d (.ov (.mp ke.t ve.t) (some []))
 | none=>.fail
def zqz (ty:TypeId) (x i:Operand) (ok:Bool) (d:Option Nat):Cmd Unit :=
 match zt0 E ty with
 | some (_,ke,ve)=>rdK E i fun b=>asK ke.t b fun key=>rdK E x fun a=>mpK a fun p q m _=>(match teq p ke.t,teq q ve.t,cast (.mp p q) (.mp ke.t ve.t) m with
   | true,true,some m=>(match ok with
     | true=>lay d (.tup [⟨ve.t,(zg2 (eqD ke.t) key (m.getD [])).getD ve.zero⟩,⟨.bool,(zg2 (eqD ke.t) key (m.getD [])).isSome⟩])
     | false=>lay d (.v ve.t ((zg2 (eqD ke.t) key (m.getD [])).getD ve.zero)))
   | _,_,_=>.fail)
 | none=>.fail
def zj6 (ty:TypeId) (x i v:Operand) (d:Option Nat):Cmd Unit :=
 match d,zt0 E ty with
 | none,some (_,ke,ve)=>rdK E i fun b=>asK ke.t b fun key=>rdK E v fun c=>asK ve.t c fun val=>rdK E x fun a=>mpK a fun p q m put=>(match cast (.mp p q) (.mp ke.t ve.t) m with
   | some m'=>.test m'.isSome (match cast (.mp ke.t ve.t) (.mp p q) (some (z13t (eqD ke.t) key val (m'.getD []))) with
     | some m2=>put m2 (.ret ())
     | none=>.fail) .fail
   | none=>.fail)
 | _,_=>.fail
def zm6 (ty:TypeId) (x i:Operand) (d:Option Nat):Cmd Unit :=
 match d,zt0 E ty with
 | none,some (_,ke,ve)=>rdK E i fun b=>asK ke.t b fun key=>rdK E x fun a=>mpK a fun p q m put=>(match cast (.mp p q) (.mp ke.t ve.t) m with
   | some m'=>.test m'.isSome (match cast (.mp ke.t ve.t) (.mp p q) (some (z14c (eqD ke.t) key (m'.getD []))) with
     | some m2=>put m2 (.ret ())
     | none=>.fail) .fail
   | none=>.fail)
 | _,_=>.fail
def zpg (ty:TypeId)(x:Operand)(d:Option Nat):Cmd Unit :=
 match d,zt0 E ty with
 | none,some _=>rdK E x fun a=>mpK a fun _ _ m put=>.test m.isSome (put (some []) (.ret ())) .fail
 | _,_=>.fail
def zzl (ty:TypeId) (x:Operand) (d:Option Nat):Cmd Unit :=
 tyK E ty fun e=>rdK E x fun a =>
  match zja e.desc,z1a6 e.desc with
  | true,_=>(match a with
    | .v .str s=>lay d (.v (.int .i64) (s.length:Int))
    | _=>.fail)
  | _,true=>(match a with
    | .nilsl=>lay d (.v (.int .i64) 0)
    | a=>zr0 a fun z=>match z with
      | ⟨.sl _,xs⟩=>lay d (.v (.int .i64) (xs.length:Int))
      | _=>.fail)
  | _,_=>(match isMp e.desc with
    | true=>mpK a fun _ _ m _=>lay d (.v (.int .i64) ((m.getD []).length:Int))
    | false=>.fail)
def srcK (t:T) (a:A) (k:List t.den->Cmd α):Cmd α :=
 match t,a,k with
 | _,.nilsl,k=>k []
 | .int .u8,.v .str s,k=>k (z4p s)
 | t,a,k=>zr0 a fun z=>match z with
   | ⟨.sl u,ys⟩=>(match cast (.sl (unT u)) (.sl t) (unRw u ys) with
     | some ys=>k ys
     | none=>.fail)
   | _=>.fail
def bytK (u:T)(xs:List u.den)(k:Nat->List Int->Cmd α)(k':Cmd α):Cmd α:=match u,xs with
 | .byt q,xs=>k q xs
 | _,_=>k'
def zmp (ty xT:TypeId) (s x:Operand) (d:Option Nat):Cmd Unit :=
 tyK E ty fun e=>tyK E xT fun ex=>match e.desc with
  | .slice el=>tyK E el fun ee=>(match z1i (z1i (Nat.blt 0 ee.bytes) (Nat.ble ee.size ee.bytes)) (match ex.desc with
     | .int _=>false
     | _=>true) with
    | true=>rdK E s fun a=>rdK E x fun b=>srcK ee.t b fun ys=>(match a with
      | .nilsl=>.test (decide (ys.length*ee.bytes<=70368744177664)) (lay d (.row ee.t ys)) .fail
      | .bor r=>.get r fun c=>(match c with
        | .row t xs=>(match cast (.sl t) (.sl ee.t) xs with
          | some xs=>.test (decide ((xs.length+ys.length)*ee.bytes<=70368744177664)) (.set r .dead (lay d (.row ee.t (xs++ys)))) .fail
          | none=>.fail)
        | _=>.fail)
      | .cel r n p=>zxq r n p fun t z u xs=>bytK u xs (fun q xs=>(match z1i (Nat.beq q el) (teq ee.t (.int .u8)) with
        | true=>(match cast (.sl ee.t) (.sl (.int .u8)) ys with
          | some ys=>.test (decide ((xs.length+ys.length)*ee.bytes<=70368744177664)) (match z4o t z p .any () with
            | some q'=>.cont r (.box q'.1 q'.2) (lay d (.row (.byt q) (xs++ys)))
            | none=>.fail) .fail
          | none=>.fail)
        | false=>.fail)) (match cast (.sl u) (.sl ee.t) xs with
        | some xs=>.test (decide ((xs.length+ys.length)*ee.bytes<=70368744177664)) (match z4o t z p .any () with
          | some q=>.cont r (.box q.1 q.2) (lay d (.row ee.t (xs++ys)))
          | none=>.fail) .fail
        | none=>.fail)
      | _=>.fail)
    | false=>.fail)
  | _=>.fail
def over {α:Type}(xs:List α)(lo hi:Nat)(ys:List α):List α:=xs.take lo++(ys.take (hi - lo)++xs.drop (lo+min ys.length (hi - lo)))
def zn4 {α:Type}(lo hi:Nat)(ys:List α):Int:=((min ys.length (hi - lo):Nat):Int)
def ztl (dT : TypeId) (x y:Operand) (d:Option Nat):Cmd Unit :=
 tyK E dT fun e=>match e.desc with
  | .slice el=>tyK E el fun ee=>rdK E y fun b=>srcK ee.t b fun ys=>rdK E x fun a=>(match a with
    | .bor r=>.get r fun c=>(match c with
      | .row t xs=>(match cast (.sl t) (.sl ee.t) xs with
        | some xs=>.cont r (.row ee.t (over xs 0 xs.length ys)) (lay d (.v (.int .i64) (zn4 0 xs.length ys)))
        | none=>.fail)
      | _=>.fail)
    | .cel r n p=>zxq r n p fun t z u xs=>(match cast (.sl u) (.sl ee.t) xs with
      | some xs=>(match z4o t z p (.own ee.t) (over xs 0 xs.length ys) with
        | some q=>.cont r (.box q.1 q.2) (lay d (.v (.int .i64) (zn4 0 xs.length ys)))
        | none=>.fail)
      | none=>.fail)
    | .psl r n p u q lo hi=>zxq r n p fun t z u' xs=>(match cast (.sl u') (.sl u) xs with
      | some xs=>.test (zx0 (.arr 0 u) xs q) (z14s (foc (.arr 0 u) xs q) fun m t' zs=>(match cast (.sl t') (.sl ee.t) zs with
        | some zs=>(match z7d (.arr 0 u) xs q (.arr m ee.t) (over zs lo hi ys) with
          | some xs'=>(match z4o t z p (.own u) xs' with
            | some z'=>.cont r (.box z'.1 z'.2) (lay d (.v (.int .i64) (zn4 lo hi ys)))
            | none=>.fail)
          | none=>.fail)
        | none=>.fail)) .fail
      | none=>.fail)
    | _=>.fail)
  | _=>.fail
def zgz (mx:Bool) (x y:Operand) (d:Option Nat):Cmd Unit :=
 rdK E x fun a=>rdK E y fun b=>match a,b with
  | .v (.int k) m,.v (.int k') n=>(match decide (k=k') with
    | true=>lay d (.v (.int k) (match mx with
      | true=>if n > m then n else m
      | false=>if n<m then n else m))
    | false=>.fail)
  | _,_=>.fail
def zvv:List Nat->Nat->(List A->List (Nat×Nat)->Cmd α)->Cmd α
 | [],_,k=>k [] []
 | s::r,i,k=>.get s fun c=>match c with
   | .box t y=>zvv r (i+1) fun l b=>k (.box t y::l) ((s,i)::b)
   | _=>.fail
def zmn (xt:List Nat):List Operand->Nat->(List A->List (Nat×Nat)->Cmd α)->Cmd α
 | [],i,k=>zvv xt i k
 | x :: r,i,k=>rdK E x fun a=>match a with
   | .bor s=>.get s fun c=>(match c with
     | .row t xs=>.retire s (zmn xt r (i+1) fun l b=>k (.v (nrmL t xs).1 (nrmL t xs).2::l) b)
     | .ov t x=>(match z12w t with
       | true=>.retire s (zmn xt r (i+1) fun l b=>k (.v (frz t) (zra t x)::l) b)
       | false=>.fail)
     | .box ..=>zmn xt r (i+1) fun l b=>.get s fun c=>(match c with
       | .box t y=>k (.box t y::l) ((s,i)::b)
       | _=>.fail)
     | _=>.fail)
   | .v t y=>zmn xt r (i+1) fun l b=>k (.v (nrm t y).1 (nrm t y).2::l) b
   | .nilsl=>zmn xt r (i+1) fun l b=>k (.nilsl::l) b
   | .cel s n p=>zx7 (.cel s n p) fun d=>zmn xt r (i+1) fun l b=>k (.v d.1 d.2::l) b
   | .clo f rs=>zx7 (.clo f rs) fun d=>zmn xt r (i+1) fun l b=>k (.v d.1 d.2::l) b
   | _=>.fail
def zz4:List (Nat×Nat)->Bool
 | []=>true
 | p::r=>z1i (!(r.any fun q=>Nat.beq q.1 p.1)) (zz4 r)
def z13a (outs:List A):List (Nat×Nat)->Cmd α->Cmd α
 | [],k=>k
 | (r, i)::l,k=>match outs.getD i .dead with
   | .box t y=>.get r fun c=>(match c with
     | .box t' _=>(match Nat.beq t.size t'.size with
       | true=>.cont r (.box t y) (z13a outs l k)
       | false=>.fail)
     | _=>.fail)
   | _=>.fail
def resOk:A->Bool
 | .v .. | .row .. | .box .. | .tup _ | .ov .. | .otup _=>true
 | _=>false
def z18:(t:T)->t.den->Option (List A)
 | .unit,_=>some []
 | .pair (.ptr a) b,x=>match z18 b x.2 with
   | some l=>some (.v (.ptr a) x.1::l)
   | none=>none
 | _,_=>none
def zm3 (f:FuncId) (args:List Operand) (xt:List Nat) (xs:List A) (d:Option Nat):Cmd Unit :=
 zmn E xt args 0 fun l b=>match zz4 b with
  | true=>.call f (l.append xs) fun x outs=>(match resOk x with
    | true=>z13a outs b (lay d x)
    | false=>.fail)
  | false=>.fail
def zp8:T->Bool
 | .int _ | .bool | .str=>true
 | .arr _ (.int _)=>true
 | _=>false
def z1gs (x:A):Bool:=match x with
 | .v t _=>zp8 t
 | .tup l=>l.all fun d=>zp8 d.1
 | _=>false
def zwm:List Operand->(List A->Cmd α)->Cmd α
 | [],k=>k []
 | x::r,k=>rdK E x fun a=>match a with
   | .nilsl=>zwm r fun l=>k (.nilsl::l)
   | a=>zr0 a fun d=>zwm r fun l=>k (.v d.1 d.2::l)
def zou (f:FuncId) (args:List Operand) (d:Option Nat):Cmd Unit :=
 zwm E args fun l=>.call f l fun x _=>match z1gs x with
  | true=>lay d x
  | false=>.fail
def zdm : List Operand->Cmd α->Cmd α
 | [],k=>k
 | x :: r,k=>rdK E x fun a=>match a with
   | .bor s=>.get s fun c=>(match c with
     | .ov t m=>(match t,m with
       | .nb u,m=>.test m.isSome (.cont s (.box u (m.getD u.dflt)) (zdm r k)) (.cont s (.ov (.nb u) none) (.retire s (zdm r k)))
       | _,_=>zdm r k)
     | _=>zdm r k)
   | _=>zdm r k
def z10o (c:Call) (d:Option Nat):Cmd Unit :=
 match c.callee with
 | .value (.func f)=>(match d.bind E.boxT with
   | some .unit=>zou E f c.args.toList d
   | _=>zdm E c.args.toList (zm3 E f c.args.toList [] [] d))
 | .value f=>rdK E f fun a=>(match a with
   | .v .opq (.func (.func f) first captured)=>(match z1i first.isEmpty captured.isEmpty with
     | true=>zm3 E f c.args.toList [] [] d
     | false=>.fail)
   | .clo f rs=>zm3 E f c.args.toList rs [] d
   | .v (.fn f t) x=>(match z18 t x with
     | some l=>zm3 E f c.args.toList [] l d
     | none=>.fail)
   | _=>.fail)
 | .builtin b=>(match b,c.args.toList,c.argTypes.toList with
   | .len,[x],[t]=>zzl E t x d
   | .append,[s,x],[t,u]=>zmp E t u s x d
   | .copy,[x,y],t::_=>ztl E t x y d
   | .min,[x,y],_=>zgz E false x y d
   | .max,[x,y],_=>zgz E true x y d
   | .delete,[x,y],t::_=>zm6 E t x y d
   | .clear,[x],[t]=>zpg E t x d
   | _,_,_=>.fail)
 | _=>.fail
def zo6 (x:Operand) (i:Nat) (d:Option Nat):Cmd Unit :=
 rdK E x fun a=>match a with
  | .tup l=>(match l[i]? with
    | some z=>lay d (.v z.1 z.2)
    | none=>.fail)
  | .bor r=>.get r fun c=>(match c with
    | .otup l=>(match l[i]? with
      | some z=>(match noOwn z.1 with
        | true=>lay d (.v z.1 z.2)
        | false=>(match ovT z.1 with
          | true=>.cont r (.otup (l.set i ⟨fgt z.1,z104 z.1 z.2⟩)) (lay d (.ov z.1 z.2))
          | false=>.fail))
      | none=>.fail)
    | _=>.fail)
  | _=>.fail
def z166 (E:Env) (r d:Nat):Bool:=match E.ownRes with
 | true=>(match E.keep d with
   | some _=>!(Nat.beq r d)
   | none=>false)
 | false=>false
def zvd (E:Env)(r d:Nat):Bool:=match E.boxT d with
 | some _=>!(Nat.beq r d)
 | none=>false
def zqb (E:Env) (d:Nat) (t:T) (y:t.den):Cmd Unit:=match E.boxT d with
 | some (.nb _)=>.set d (.ov t y) (.ret ())
 | some _=>(match t,y with
   | .nb u,m=>.set d (.ov (.nb u) m) (.test m.isSome (.cont d (.box u (m.getD u.dflt)) (.ret ())) .fail)
   | t,y=>.set d (.ov t y) (.ret ()))
 | none=>.set d (.ov t y) (.ret ())
def z12h (E:Env)(d:Nat):Cmd Unit:=match E.boxT d with
 | some (.sl t)=>.set d (.v (.sl t) []) (.ret ())
 | _=>.set d .nilsl (.ret ())
def z14h (x:Operand) (d:Option Nat):Cmd Unit :=
 match d with
 | none=>.fail
 | some d=>match x with
   | .tmp s=>.get s fun a=>(match a with
     | .row t xs=>(match E.keep d with
       | some _=>(match Nat.beq s d with
         | true=>.fail
         | false=>.set s .dead (.set d (.row t xs) (.ret ())))
       | none=>.retire s (.set d (.v (.sl t) xs) (.ret ())))
     | .box t y=>(match Nat.beq s d with
       | true=>.fail
       | false=>.set s .dead (.set d (.box t y) (.ret ())))
     | .ov t y=>(match Nat.beq s d with
       | true=>.fail
       | false=>.set s .dead (zqb E d t y))
     | .otup ..=>.fail
     | .iter ..=>.fail
     | .bor r=>.get r fun c=>(match c with
       | .row t xs=>(match z166 E r d with
         | true=>.set r .dead (.set d (.row t xs) (.ret ()))
         | false=>.retire r (.set d (.v (.sl t) xs) (.ret ())))
       | .box t y=>(match zvd E r d with
         | true=>.set r .dead (.set d (.box t y) (.ret ()))
         | false=>.set d (.bor r) (.ret ()))
       | .ov t y=>(match zvd E r d with
         | true=>.set r .dead (zqb E d t y)
         | false=>.set d (.bor r) (.ret ()))
       | _=>.fail)
     | .cel r n p=>zx7 (.cel r n p) fun z=>.set d (.v z.1 z.2) (.ret ())
     | .clo f rs=>(match E.keep d with
       | some _=>.set d (.clo f rs) (.ret ())
       | none=>zx7 (.clo f rs) fun z=>.set d (.v z.1 z.2) (.ret ()))
     | .yld=>.fail
     | .nilsl=>(match E.keep d with
       | some t=>.set d (.row t []) (.ret ())
       | none=>z12h E d)
     | .dead=>.fail
     | a=>.set d a (.ret ()))
   | x => rdK E x fun a=>(match a with
     | .nilsl=>(match E.keep d with
       | some t=>.set d (.row t []) (.ret ())
       | none=>z12h E d)
     | a=>.set d a (.ret ()))
def zv7 (ty:TypeId) (x:Operand) (d:Option Nat):Cmd Unit :=
 tyK E ty fun e=>rdK E x fun a=>match zja e.desc,a with
  | true,.v .str s=>lay d (.iter s 0)
  | _,_=>.fail
def znk (s:List UInt8)(i:Nat):Nat×Nat:=Utf8.decode ⟨⟨s⟩⟩ i
def zz8 (it:Operand) (isString:Bool) (d:Option Nat):Cmd Unit :=
 match isString with
 | false=>.fail
 | true=>rdK E it fun a=>match a with
   | .bor r=>.get r fun c=>(match c with
     | .iter s pos=>.test (decide (pos<s.length))
      (.cont r (.iter s (pos+(znk s pos).2)) (lay d (.tup [⟨.bool,true⟩,⟨.int .i64,(pos:Int)⟩,⟨.int .i32,((znk s pos).1:Int)⟩])))
      (lay d (.tup [⟨.bool,false⟩]))
     | _=>.fail)
   | _=>.fail
def zyr (c a b:Operand) (d:Option Nat):Cmd Unit :=
 rdK E c fun z=>match z with
  | .v .bool b'=>.test b' (rdK E a fun x=>lay d x) (rdK E b fun x=>lay d x)
  | _=>.fail
def isPtr:A->Bool
 | .bor _ | .adr ..=>true
 | .v (.ptr _) _=>true
 | _=>false
def zlm (x:Operand) (d:Option Nat):Cmd Unit :=
 rdK E x fun a=>match a with
  | .bor r=>.get r fun c=>(match c with
    | .box ..=>lay d (.bor r)
    | .ov t x=>(match t,x with
      | .nb u,m=>.test m.isSome (.cont r (.box u (m.getD u.dflt)) (lay d (.bor r))) .fail
      | _,_=>.fail)
    | _=>.fail)
  | .pel r n p u q=>lay d (.pel r n p u q)
  | .adr r t p=>lay d (.adr r t p)
  | .v (.ptr t) y=>lay d (.v (.ptr t) y)
  | _=>.fail
def z12l (f:FuncId):List Operand->List Nat->Option Nat->Cmd Unit
 | [],rs,d=>lay d (.clo f rs.reverse)
 | x :: l,rs,d=>rdK E x fun a=>match a with
   | .bor r=>.get r fun c=>(match c with
     | .box ..=>z12l f l (r::rs) d
     | _=>.fail)
   | _=>.fail
def isFn (f:FuncId)(a:A):Bool:=match a with
 | .v .opq (.func (.func g) first captured)=>z1i (Nat.beq g f) (z1i first.isEmpty captured.isEmpty)
 | _=>false
def z1x (o:Oper):Cmd Unit :=
 match o.op with
 | .move x=>(match o.dst.bind E.boxT with
   | some (.sl _)=>rdK E x fun a=>(match a with
     | .bor r=>.get r fun c=>(match c with
       | .row t xs=>.retire r (lay o.dst (.v (.sl t) xs))
       | _=>lay o.dst a)
     | _=>lay o.dst a)
   | _=>rdK E x fun a=>lay o.dst a)
 | .assign x=>z14h E x o.dst
 | .pick c a b=>zyr E c a b o.dst
 | .alloc el=>tyK E el fun e=>(match o.dst.bind E.boxT with
   | some t=>(match z1i (zs7 t e.t) (znj el t) with
     | true=>(match zex t e.t e.zero with
       | some z=>lay o.dst (.box t z)
       | none=>.fail)
     | false=>.fail)
   | none=>lay o.dst (.box e.t e.zero))
 | .box el x=>tyK E el fun e=>rdK E x fun a=>(match o.dst.bind E.boxT with
   | some (.own u)=>(match teq (.sl u) e.t with
     | true=>z11q a u fun xs=>lay o.dst (.box (.own u) xs)
     | false=>.fail)
   | some (.fn f .unit)=>(match isFn f a with
     | true=>lay o.dst (.box (.fn f .unit) ())
     | false=>.fail)
   | some t=>(match z1i (!(noOwn t)) (z1i (zs7 t e.t) (z7y t)) with
     | true=>zun a t fun z=>lay o.dst (.box t z)
     | false=>asK e.t a fun z=>lay o.dst (.box e.t z))
   | none=>asK e.t a fun z=>lay o.dst (.box e.t z))
 | .makeFunc (.func f) first captured=>(match first.isEmpty with
   | true=>z12l E f captured.toList [] o.dst
   | false=>.fail)
 | .build t parts=>(match o.dst.bind E.boxT with
   | some u=>ztr E u t parts.toList o.dst
   | none=>zpj E t parts.toList o.dst)
 | .makeMap t h=>znv E t h o.dst
 | .lookup t x i ok=>zqz E t x i ok o.dst
 | .mapUpdate t x i v=>zj6 E t x i v o.dst
 | .buildSlice t n parts=>zhi E t n parts.toList o.dst
 | .load t x=>(match o.dst.bind E.boxT with
   | some u=>zzj E u t x o.dst
   | none=>zt4 E t x o.dst)
 | .store t x v=>(match o.dst with
   | none=>zup E t x v
   | some _=>.fail)
 | .nilCheck x=>zlm E x o.dst
 | .binOp op t x y _=>z14g E op t x y o.dst
 | .unOp op _ x=>z1ar E op x o.dst
 | .convert s t x=>z10h E s t x o.dst
 | .makeInterface t x=>tyK E t fun e=>rdK E x fun a=>(match e.desc with
   | .interface _=>.fail
   | _ => (match a with
     | .v u z=>(match valD u z with
       | some v=>lay o.dst (.v .opq (.iface t v))
       | none=>.fail)
     | _=>.fail))
 | .makeSlice t l c=>zj7 E t l c o.dst
 | .slice t x l h m=>zuv E t x l h m o.dst
 | .fieldAddr s x f=>zjf E s x f o.dst
 | .field s x f=>zvq E s x f o.dst
 | .indexAddr t x i=>zjc E t x i o.dst
 | .index t x i=>zvk E t x i o.dst
 | .range t x=>zv7 E t x o.dst
 | .next it s=>zz8 E it s o.dst
 | .extract x i=>zo6 E x i o.dst
 | .call c=>z10o E c o.dst
 | _=>.fail
end
end
end Go.Lift
