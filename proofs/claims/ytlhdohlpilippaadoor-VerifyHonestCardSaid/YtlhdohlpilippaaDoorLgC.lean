import Derived.Test.YtlhdohlpilippaaDoorLgB
set_option linter.all false
namespace Go.Lift
noncomputable section
@[reducible] def z3l:List T->Type
 | []=>Unit
 | t::ts=>t.den×z3l ts
inductive A where
 | v (t:T) (x:t.den)            -- a datum,in memory that nobody writes
 | row (t:T) (xs:List t.den)    -- a slice over a block of its own
 | box (t:T) (x:t.den)          -- a pointer to a block of its own,which may hold slices over blocks of their own
 | iter (s:List UInt8) (pos:Nat)
 | bor (r:Nat)                    -- the value that temporary r holds,r a block's owner
 | adr (r:Nat) (t:T) (p:List Step)   -- an address inside r's block,whose content is of type t
 | cel (r:Nat) (k:Nat) (p:List Step) -- the value of cell k of r's block,which is at place p
 | clo (f:FuncId) (rs:List Nat)        -- a function value that has captured the boxes of these owners
 | yld                                     -- the function that an iterator calls
 | ov (t:T) (x:t.den)           -- a value that owns blocks
 | otup (l:List Dat)              -- a tuple of such values
 | pel (r:Nat) (n:Nat) (p:List Step) (u:T) (q:List Step)  -- an address inside the block of the row that lies in cell n (place p) of r's block
 | psl (r:Nat) (n:Nat) (p:List Step) (u:T) (q:List Step) (lo hi:Nat)  -- a slice of the array that lies there
 | tup (l:List Dat)
 | nilsl
 | dead
def A.own:A->Bool
 | .row .. | .box .. | .iter .. | .yld | .ov .. | .otup ..=>true
 | _=>false
def A.refs:A->List Nat
 | .bor r | .adr r .. | .cel r .. | .pel r .. | .psl r ..=>[r]
 | .clo _ rs=>rs
 | _=>[]
def A.cell:A->Option Nat
 | .cel r ..=>some r
 | .pel r ..=>some r
 | .psl r ..=>some r
 | _=>none
def Free (cs:Array Value)(fr:Nat×Nat):Prop:=fr.1<=fr.2/\∀ i,i<cs.size->¬ (fr.1<=i/\i<fr.2)
def z1q:Value->Option Nat
 | .pointer (some ⟨b,0,none⟩)=>some b
 | .slice (some ⟨b,0,none⟩) _ (_+1)=>some b
 | _=>none
inductive TupRel (S:Hp):List Dat->List Value->Prop
 | nil:TupRel S [] []
 | cons {d:Dat} {v:Value} {l:List Dat} {vs:List Value} (h:VR S d.1 d.2 v) (hs:TupRel S l vs):TupRel S (d::l) (v::vs)
def RowRel (h S:Hp)(t:T)(xs:List t.den)(v:Value)(o:List Nat):Prop:=(xs=[]/\(∃ ad,v=.slice ad 0 0/\∀ q,t=.byt q->ad=none)/\o=[]) ∨
 ∃ b cap cs E fr,o=[b]/\v=.slice (some ⟨b,0,none⟩) xs.length cap/\h b=some (.cells cs E fr)/\Free cs fr ∧
 cs.size=cap*t.size/\xs.length<=cap/\All (Rd S t) xs (cs.toList.take (xs.length*t.size))/\∀ q,t=.byt q->E=q
def Ents (S:Hp)(k v:T):List (k.den×v.den)->List MapEntry->Prop
 | [],es=>es=[]
 | x::xs,es=>∃ e es',es=e::es'/\VR S k x.1 e.key/\VR S v x.2 e.val/\Ents S k v xs es'
def MpRel (h S:Hp)(k v:T)(x:Option (List (k.den×v.den)))(u:Value)(o:List Nat):Prop:=(x=none/\u=.map none/\o=[]) ∨
 ∃ xs b es clock,x=some xs/\o=[b]/\u=.map (some b)/\h b=some (.map es clock)/\Ents S k v xs es.toList/\(es.toList.map (·.born)).Nodup/\∀ e∈es.toList,e.born<clock
theorem Ents.mono {S S':Hp}(hS:Sub S S'){k v:T}:∀ {xs:List (k.den×v.den)} {es:List MapEntry},Ents S k v xs es->Ents S' k v xs es
 | [],_,e=>e
 | _::_,_,⟨e,es',e1,h1,h2,h3⟩=>⟨e,es',e1,h1.mono hS,h2.mono hS,Ents.mono hS h3⟩
theorem MpRel.mono {h h' S S':Hp}(hS:Sub S S'){k v:T}{x:Option (List (k.den×v.den))}{u:Value}{o:List Nat}(ho:∀ b∈o,h' b=h b)(hx:MpRel h S k v x u o):MpRel h' S' k v x u o:=by
 rcases hx with hx|⟨xs,b,es,cl,e,e1,e2,h1,h2,h3⟩
 . exact .inl hx
 . exact .inr ⟨xs,b,es,cl,e,e1,e2,by rw[ho b (by simp[e1])];exact h1,h2.mono hS,h3⟩
theorem MpRel.one {h S:Hp}{k v:T}{x:Option (List (k.den×v.den))}{u:Value}{o:List Nat}(hx:MpRel h S k v x u o):u.oneCell'=true:=by
 rcases hx with⟨_,e,_⟩|⟨xs,b,es,cl,e,e1,e2,_⟩
 . rw[e];rfl
 . rw[e2];rfl
theorem MpRel.obj {h S:Hp}{k v:T}{x:Option (List (k.den×v.den))}{u:Value}{o:List Nat}(hx:MpRel h S k v x u o):∀ b∈o,∃ ob,h b=some ob/\∀ l,ob ≠ .deferred l:=by
 intro b hb;rcases hx with⟨_,_,e⟩|⟨xs,b',es,cl,e,e1,e2,h1,_⟩
 . rw[e] at hb;cases hb
 . rw[e1] at hb;simp at hb;subst hb;exact⟨_,h1,fun l h=>by cases h⟩
def RdO (m:Nat×Nat)(h S:Hp):(t:T)->t.den->List Value->List Nat->Prop
 | .pair a b,x,cs,bs=>∃ c1 c2 b1 b2,cs=c1++c2/\bs=b1++b2/\RdO m h S a x.1 c1 b1/\RdO m h S b x.2 c2 b2
 | .own t,xs,cs,bs=>∃ v,cs=[v]/\RowRel h S t xs v bs
 | .int k,x,cs,bs=>bs=[]/\Rd S (.int k) x cs
 | .bool,x,cs,bs=>bs=[]/\Rd S .bool x cs
 | .str,x,cs,bs=>bs=[]/\Rd S .str x cs
 | .opq,x,cs,bs=>bs=[]/\Rd S .opq x cs
 | .unit,x,cs,bs=>bs=[]/\Rd S .unit x cs
 | .arr n t,x,cs,bs=>bs=[]/\Rd S (.arr n t) x cs
 | .sl t,x,cs,bs=>bs=[]/\Rd S (.sl t) x cs
 | .ptr t,x,cs,bs=>bs=[]/\Rd S (.ptr t) x cs
 | .any,x,cs,bs=>bs=[]/\Rd S .any x cs
 | .byt q,x,cs,bs=>bs=[]/\Rd S (.byt q) x cs
 | .self ty,_,cs,bs=>bs=[]/\∃ v,cs=[v]/\m.2=ty/\(v=.pointer none\/v=.pointer (some ⟨m.1,0,none⟩))
 | .fn f t,x,cs,bs=>bs=[]/\Rd S (.fn f t) x cs
 | .ifc ty t,x,cs,bs=>bs=[]/\Rd S (.ifc ty t) x cs
 | .nod,x,cs,bs=>bs=[]/\Rd S .nod x cs
 | .mp k v,x,cs,bs=>∃ u,cs=[u]/\MpRel h S k v x u bs
 | .nb t,x,cs,bs=>(x=none/\cs=[.pointer none]/\bs=[])\/∃ y b cs' E fr bs',x=some y/\cs=[.pointer (some ⟨b,0,none⟩)]/\bs=b::bs'/\h b=some (.cells cs' E fr)/\Free cs' fr/\RdO (b,E) h S t y cs'.toList bs'
def ovT (t:T):Bool:=match t with
 | .own _=>true
 | .mp _ _=>true
 | .nb _=>true
 | t=>t.isAgg
def VRO (h S:Hp)(t:T)(x:t.den)(v:Value)(o:List Nat):Prop :=
 if t.isAgg then ∃ cs,v=.agg cs/\RdO (0,0) h S t x cs.toList o else RdO (0,0) h S t x [v] o
def OTup (h S:Hp):List Dat->List Value->List Nat->Prop
 | [],vs,o=>vs=[]/\o=[]
 | d::l,vs,o=>∃ v vs' o1 o2,vs=v::vs'/\o=o1++o2/\VRO h S d.1 d.2 v o1/\OTup h S l vs' o2
def ARel (h S:Hp)(tv:Nat->Value):A->Value->List Nat->Prop
 | .v t x,v,o=>VR S t x v/\o=[]
 | .row t xs,v,o=>RowRel h S t xs v o
 | .box t x,v,o=>∃ b cs E fr bs,o=b::bs/\v=.pointer (some ⟨b,0,none⟩)/\h b=some (.cells cs E fr)/\Free cs fr/\RdO (b,E) h S t x cs.toList bs
 | .iter s pos,v,o=>∃ b sp,o=[b]/\v=.pointer (some ⟨b,0,sp⟩)/\h b=some (.stringIter ⟨⟨s⟩⟩ pos)
 | .bor r,v,o=>v=tv r/\o=[]
 | .adr r t p,v,o=>o=[]/\∃ b,z1q (tv r)=some b/\v=.pointer (some ⟨b,z16 t p,none⟩)
 | .cel r k _,v,o=>o=[]/\∃ b cs E fr,z1q (tv r)=some b/\h b=some (.cells cs E fr)/\cs[k]?=some v
 | .clo f rs,v,o=>o=[]/\∃ l:Array Value,v=.func (.func f) #[] l/\l.toList=rs.map tv
 | .yld,v,o=>o=[]/\z1q v=none
 | .ov t x,v,o=>ovT t=true/\VRO h S t x v o
 | .otup l,v,o=>∃ vs,v=.tuple vs/\OTup h S l vs.toList o
 | .pel r n _ u q,v,o=>o=[]/\∃ b cs E fr b' len cap,z1q (tv r)=some b/\h b=some (.cells cs E fr)/\cs[n]?=some (.slice (some ⟨b',0,none⟩) len cap)/\v=.pointer (some ⟨b',z16 (.arr 0 u) q,none⟩)
 | .psl r n _ u q lo hi,v,o=>o=[]/\∃ b cs E fr b' len cap,z1q (tv r)=some b/\h b=some (.cells cs E fr)/\cs[n]?=some (.slice (some ⟨b',0,none⟩) len cap)/\∃ m t cap2 off,z1d (.arr 0 u) q=some (.arr m t)/\lo<=hi/\hi<=m/\hi - lo<=cap2/\(lo<hi->off=z16 (.arr 0 u) q+lo*t.size)/\v=.slice (some ⟨b',off,none⟩) (hi - lo) cap2
 | .tup l,v,o=>o=[]/\∃ vs,v=.tuple vs/\TupRel S l vs.toList
 | .nilsl,v,o=>v=.slice none 0 0/\o=[]
 | .dead,_,o=>o=[]
theorem TupRel.mono {S S':Hp}(h:Sub S S'){l:List Dat}{vs:List Value}(ht:TupRel S l vs):TupRel S' l vs:=by
 induction ht with
 | nil=>exact .nil
 | cons hv _ ih=>exact .cons (hv.mono h) ih
theorem RowRel.mono {h h' S S':Hp}(hS:Sub S S'){t:T}{xs:List t.den}{v:Value}{o:List Nat}(ho:∀ b∈o,h' b=h b)(hx:RowRel h S t xs v o):RowRel h' S' t xs v o:=by
 rcases hx with hx|⟨b,cap,cs,E,fr,e,e1,e2,h1,h2,h3,h4⟩
 . exact .inl hx
 . exact .inr ⟨b,cap,cs,E,fr,e,e1,by rw[ho b (by simp[e])];exact e2,h1,h2,h3,All.mono (Rd.mono hS t) _ _ h4.1,h4.2⟩
theorem RdO.mono {m:Nat×Nat}{h h' S S':Hp}(hS:Sub S S'):∀ (t:T) (x:t.den) (cs:List Value) (bs:List Nat),(∀ b∈bs,h' b=h b)->RdO m h S t x cs bs->RdO m h' S' t x cs bs
 | .pair a b,_,_,_,ho,⟨c1,c2,b1,b2,e,e',h1,h2⟩=>⟨c1,c2,b1,b2,e,e',RdO.mono hS a _ _ _ (fun k hk=>ho k (by simp[e',hk])) h1,RdO.mono hS b _ _ _ (fun k hk=>ho k (by simp[e',hk])) h2⟩
 | .own _,_,_,_,ho,⟨v,e,hr⟩=>⟨v,e,hr.mono hS ho⟩
 | .int _,_,_,_,_,⟨e,hr⟩=>⟨e,Rd.mono hS _ _ _ hr⟩
 | .bool,_,_,_,_,⟨e,hr⟩=>⟨e,Rd.mono hS _ _ _ hr⟩
 | .str,_,_,_,_,⟨e,hr⟩=>⟨e,Rd.mono hS _ _ _ hr⟩
 | .opq,_,_,_,_,⟨e,hr⟩=>⟨e,Rd.mono hS _ _ _ hr⟩
 | .unit,_,_,_,_,⟨e,hr⟩=>⟨e,Rd.mono hS _ _ _ hr⟩
 | .arr _ _,_,_,_,_,⟨e,hr⟩=>⟨e,Rd.mono hS _ _ _ hr⟩
 | .sl _,_,_,_,_,⟨e,hr⟩=>⟨e,Rd.mono hS _ _ _ hr⟩
 | .ptr _,_,_,_,_,⟨e,hr⟩=>⟨e,Rd.mono hS _ _ _ hr⟩
 | .any,_,_,_,_,⟨e,hr⟩=>⟨e,Rd.mono hS _ _ _ hr⟩
 | .byt _,_,_,_,_,⟨e,hr⟩=>⟨e,Rd.mono hS _ _ _ hr⟩
 | .self _,_,_,_,_,hr=>hr
 | .fn _ _,_,_,_,_,⟨e,hr⟩=>⟨e,Rd.mono hS _ _ _ hr⟩
 | .ifc _ _,_,_,_,_,⟨e,hr⟩=>⟨e,Rd.mono hS _ _ _ hr⟩
 | .nod,_,_,_,_,⟨e,hr⟩=>⟨e,Rd.mono hS _ _ _ hr⟩
 | .mp _ _,_,_,_,ho,⟨u,e,hr⟩=>⟨u,e,hr.mono hS ho⟩
 | .nb t,_,_,_,ho,hr=>hr.imp id fun ⟨y,b,cs',E,fr,bs',e1,e2,e3,e4,e5,e6⟩=>⟨y,b,cs',E,fr,bs',e1,e2,e3,by rw[ho b (by simp[e3])];exact e4,e5,RdO.mono hS t _ _ _ (fun k hk=>ho k (by simp[e3,hk])) e6⟩
theorem VRO.mono {h h' S S':Hp}(hS:Sub S S'){t:T}{x:t.den}{v:Value}{o:List Nat}(ho:∀ b∈o,h' b=h b):VRO h S t x v o->VRO h' S' t x v o:=by
 unfold VRO;split
 . rintro⟨cs,e,hr⟩;exact⟨cs,e,hr.mono hS _ _ _ _ ho⟩
 . exact RdO.mono hS t x _ _ ho
theorem OTup.mono {h h' S S':Hp}(hS:Sub S S'):∀ {l:List Dat} {vs:List Value} {o:List Nat},(∀ b∈o,h' b=h b)->OTup h S l vs o->OTup h' S' l vs o
 | [],_,_,_,e=>e
 | d::l,_,_,ho,⟨v,vs',o1,o2,e1,e2,h1,h2⟩=>⟨v,vs',o1,o2,e1,e2,h1.mono hS (fun k hk=>ho k (by simp[e2,hk])),OTup.mono hS (fun k hk=>ho k (by simp[e2,hk])) h2⟩
theorem RdO.of_rd {m:Nat×Nat}{h S:Hp}:∀ (t:T) (x:t.den) (cs:List Value),Rd S t x cs->RdO m h S t x cs []
 | .pair a b,_,_,⟨c1,c2,e,h1,h2⟩=>⟨c1,c2,[],[],e,rfl,RdO.of_rd a _ _ h1,RdO.of_rd b _ _ h2⟩
 | .own _,_,_,e=>e.elim
 | .self _,_,_,e=>e.elim
 | .mp _ _,_,_,e=>e.elim
 | .nb _,_,_,e=>e.elim
 | .ifc _ _,_,_,hr=>⟨rfl,hr⟩
 | .nod,_,_,hr=>⟨rfl,hr⟩
 | .int _,_,_,hr=>⟨rfl,hr⟩
 | .bool,_,_,hr=>⟨rfl,hr⟩
 | .str,_,_,hr=>⟨rfl,hr⟩
 | .opq,_,_,hr=>⟨rfl,hr⟩
 | .unit,_,_,hr=>⟨rfl,hr⟩
 | .arr _ _,_,_,hr=>⟨rfl,hr⟩
 | .sl _,_,_,hr=>⟨rfl,hr⟩
 | .ptr _,_,_,hr=>⟨rfl,hr⟩
 | .any,_,_,hr=>⟨rfl,hr⟩
 | .byt _,_,_,hr=>⟨rfl,hr⟩
 | .fn _ _,_,_,hr=>⟨rfl,hr⟩
def noOwn:T->Bool
 | .pair a b=>z1i (noOwn a) (noOwn b)
 | .own _=>false
 | .self _=>false
 | .mp _ _=>false
 | .nb _=>false
 | _=>true
theorem RdO.rd {m:Nat×Nat}{h S:Hp}:∀ (t:T) (x:t.den) (cs:List Value) (bs:List Nat),noOwn t=true->RdO m h S t x cs bs->bs=[]/\Rd S t x cs
 | .pair a b,_,_,_,hn,⟨c1,c2,b1,b2,e,e',h1,h2⟩=>by
   obtain⟨n1,n2⟩:=z7 hn;obtain⟨e1,r1⟩:=RdO.rd a _ _ _ n1 h1;obtain⟨e2,r2⟩:=RdO.rd b _ _ _ n2 h2;exact⟨by rw[e',e1,e2];rfl,c1,c2,e,r1,r2⟩
 | .own _,_,_,_,hn,_=>by simp[noOwn] at hn
 | .self _,_,_,_,hn,_=>by simp[noOwn] at hn
 | .mp _ _,_,_,_,hn,_=>by simp[noOwn] at hn
 | .nb _,_,_,_,hn,_=>by simp[noOwn] at hn
 | .ifc _ _,_,_,_,_,hr=>hr
 | .nod,_,_,_,_,hr=>hr
 | .int _,_,_,_,_,hr=>hr
 | .bool,_,_,_,_,hr=>hr
 | .str,_,_,_,_,hr=>hr
 | .opq,_,_,_,_,hr=>hr
 | .unit,_,_,_,_,hr=>hr
 | .arr _ _,_,_,_,_,hr=>hr
 | .sl _,_,_,_,_,hr=>hr
 | .ptr _,_,_,_,_,hr=>hr
 | .any,_,_,_,_,hr=>hr
 | .byt _,_,_,_,_,hr=>hr
 | .fn _ _,_,_,_,_,hr=>hr
theorem RowRel.one {h S:Hp}{t:T}{xs:List t.den}{v:Value}{o:List Nat}(hx:RowRel h S t xs v o):v.oneCell'=true:=by
 rcases hx with⟨_,⟨_,e,_⟩,_⟩|⟨b,cap,cs,E,fr,e,e1,_⟩
 . rw[e];rfl
 . rw[e1];rfl
theorem RdO.length {m:Nat×Nat}{h S:Hp}:∀ (t:T) (x:t.den) (cs:List Value) (bs:List Nat),RdO m h S t x cs bs->cs.length=t.size
 | .pair a b,_,_,_,⟨c1,c2,b1,b2,e,e',h1,h2⟩=>by rw[e,List.length_append,RdO.length a _ _ _ h1,RdO.length b _ _ _ h2,T.size]
 | .own _,_,_,_,⟨v,e,_⟩=>by simp[e,T.size]
 | .int _,_,_,_,hr=>hr.2.length
 | .bool,_,_,_,hr=>hr.2.length
 | .str,_,_,_,hr=>hr.2.length
 | .opq,_,_,_,hr=>hr.2.length
 | .unit,_,_,_,hr=>hr.2.length
 | .arr _ _,_,_,_,hr=>hr.2.length
 | .sl _,_,_,_,hr=>hr.2.length
 | .ptr _,_,_,_,hr=>hr.2.length
 | .any,_,_,_,hr=>hr.2.length
 | .byt _,_,_,_,hr=>hr.2.length
 | .self _,_,_,_,⟨_,v,e,_⟩=>by simp[e,T.size]
 | .fn _ _,_,_,_,hr=>hr.2.length
 | .ifc _ _,_,_,_,hr=>hr.2.length
 | .nod,_,_,_,hr=>hr.2.length
 | .mp _ _,_,_,_,⟨u,e,_⟩=>by simp[e,T.size]
 | .nb _,_,_,_,hr=>by rcases hr with⟨_,e,_⟩|⟨_,_,_,_,_,_,_,e,_⟩<;>simp[e,T.size]
theorem ARel.mono {h h' S S':Hp}{tv tv':Nat->Value}(hS:Sub S S'){x:A}{v:Value}{o:List Nat}(ho:∀ b∈o,h' b=h b)
 (ht:∀ r∈x.refs,tv' r=tv r) (hx:ARel h S tv x v o) (hc:∀ r,x.cell=some r->∀ b,z1q (tv r)=some b->h' b=h b:=by intro r hr;cases hr):ARel h' S' tv' x v o:=by
 cases x with
 | v t x=>exact⟨hx.1.mono hS,hx.2⟩
 | row t xs=>exact RowRel.mono hS ho hx
 | box t x=>obtain⟨b,cs,E,fr,bs,e,e1,e2,h1,h2⟩:=hx;exact⟨b,cs,E,fr,bs,e,e1,by rw[ho b (by simp[e])];exact e2,h1,RdO.mono hS _ _ _ _ (fun k hk=>ho k (by simp[e,hk])) h2⟩
 | iter s pos=>obtain⟨b,sp,e,e1,e2⟩:=hx;exact⟨b,sp,e,e1,by rw[ho b (by simp[e])];exact e2⟩
 | bor r=>exact⟨by rw[ht r (by simp[A.refs])];exact hx.1,hx.2⟩
 | adr r t p=>obtain⟨e,b,e1,e2⟩:=hx;exact⟨e,b,by rw[ht r (by simp[A.refs])];exact e1,e2⟩
 | cel r k p=>obtain⟨e,b,cs,E,fr,e1,e2,e3⟩:=hx;exact⟨e,b,cs,E,fr,by rw[ht r (by simp[A.refs])];exact e1,by rw[hc r rfl b e1];exact e2,e3⟩
 | clo f rs=>obtain⟨e,l,e1,e2⟩:=hx;exact⟨e,l,e1,by rw[e2];exact List.map_congr_left fun r hr=>(ht r hr).symm⟩
 | yld=>exact hx
 | ov t x=>exact⟨hx.1,hx.2.mono hS ho⟩
 | otup l=>obtain⟨vs,e,h1⟩:=hx;exact⟨vs,e,h1.mono hS ho⟩
 | pel r n p u q=>obtain⟨e,b,cs,E,fr,b',len,cap,e1,e2,e3⟩:=hx;exact⟨e,b,cs,E,fr,b',len,cap,by rw[ht r (by simp[A.refs])];exact e1,by rw[hc r rfl b e1];exact e2,e3⟩
 | psl r n p u q lo hi=>obtain⟨e,b,cs,E,fr,b',len,cap,e1,e2,e3⟩:=hx;exact⟨e,b,cs,E,fr,b',len,cap,by rw[ht r (by simp[A.refs])];exact e1,by rw[hc r rfl b e1];exact e2,e3⟩
 | tup l=>obtain⟨e,vs,e1,e2⟩:=hx;exact⟨e,vs,e1,e2.mono hS⟩
 | nilsl=>exact hx
 | dead=>exact hx
theorem ARel.nil_of_not_own {h S:Hp}{tv:Nat->Value}{x:A}{v:Value}{o:List Nat}(hx:ARel h S tv x v o)(hn:x.own=false):o=[]:=by
 cases x<;>simp[A.own] at hn<;>simp[ARel] at hx<;>simp_all
structure Ctx where
 w0:World
 S0:Hp
 B0:Nat->Prop
 lent:List (Nat×Value)
structure WF (w0:World) (B0:Nat->Prop) (w:World):Prop where
 size:w0.heap.size<=w.heap.size
 same:∀ b,b<w0.heap.size->¬ B0 b->w.heap[b]?=w0.heap[b]?
 tape:w.tape=w0.tape
 os:w.os=w0.os
 output:w.output=w0.output
theorem WF.refl (w:World)(B:Nat->Prop):WF w B w:=⟨Nat.le_refl _,fun _ _ _=>rfl,rfl,rfl,rfl⟩
theorem WF.trans {w0 w1 w2:World}{B0 B1:Nat->Prop}(h:WF w0 B0 w1)(h':WF w1 B1 w2)(hB:∀ b,B1 b->B0 b\/w0.heap.size<=b):WF w0 B0 w2 :=
 ⟨Nat.le_trans h.size h'.size,fun b hb hn=>by
  rw[h'.same b (Nat.lt_of_lt_of_le hb h.size) (fun hb1=>(hB b hb1).elim hn (fun hle=>absurd hb (by omega))),h.same b hb hn],
  h'.tape.trans h.tape,h'.os.trans h.os,h'.output.trans h.output⟩
def tv (a:Act):Nat->Value:=fun i=>a.tmps.getD i undef
def zbc (D:Nat):Deferred:={ target:=.collected D,args:=#[] }
def Marks (c:Ctx)(ds:List Deferred)(w:World)(S:Hp)(ob:Nat->List Nat):Prop :=
 ∃ Ds:List Nat,ds=Ds.map zbc/\Ds.Nodup/\∀ D∈Ds,hp w D=some (.deferred (some []))/\S D=none/\(∀ i,D∉ob i)/\(c.B0 D\/c.w0.heap.size<=D)
theorem Marks.turn {c:Ctx}{ds:List Deferred}{w w':World}{S S':Hp}{ob ob':Nat->List Nat}(h:Marks c ds w S ob)
 (hk:∀ D,hp w D=some (.deferred (some []))->S D=none->(∀ i,D∉ob i)->(c.B0 D\/c.w0.heap.size<=D)->hp w' D=some (.deferred (some []))/\S' D=none/\∀ i,D∉ob' i):Marks c ds w' S' ob':=by
 obtain⟨Ds,e,hn,hD⟩:=h;refine⟨Ds,e,hn,fun D hm=>?_⟩;obtain⟨h1,h2,h3,h4⟩:=hD D hm;obtain⟨k1,k2,k3⟩:=hk D h1 h2 h3 h4;exact⟨k1,k2,k3,h4⟩
structure SimD (c:Ctx) (st:List A) (a:Act) (w:World) (S:Hp) (ob:Nat->List Nat):Prop where
 defers:Marks c a.defers w S ob
 size:a.tmps.size=st.length
 rel:∀ (i:Nat) (x:A),st[i]?=some x->ARel (hp w) S (tv a) x (tv a i) (ob i)
 refs:∀ (i:Nat) (x:A) (r:Nat),st[i]?=some x->r∈x.refs->∃ y:A,st[r]?=some y/\y.own=true
 out:∀ i,st.length<=i->ob i=[]
 inj:∀ i j b,b∈ob i->b∈ob j->i=j
 nd:∀ i,(ob i).Nodup
 hid:∀ i b,b∈ob i->S b=none
 sub:Sub S (hp w)
 mono:Sub c.S0 S
 fresh:∀ i b,b∈ob i->c.B0 b\/c.w0.heap.size<=b
 newS:∀ b,S b≠none->c.S0 b≠none\/c.B0 b\/c.w0.heap.size<=b
 lent:∀ p∈c.lent,tv a p.1=p.2
 frame:WF c.w0 c.B0 w
def Sim (c:Ctx)(st:List A)(a:Act)(w:World):Prop:=∃ S ob,SimD c st a w S ob
theorem RdO.obj {m:Nat×Nat}{h S:Hp}:∀ (t:T) (x:t.den) (cs:List Value) (bs:List Nat),RdO m h S t x cs bs->∀ b∈bs,∃ o,h b=some o/\∀ l,o ≠ .deferred l
 | .pair a b,_,_,_,⟨c1,c2,b1,b2,e,e',h1,h2⟩,k,hk=>by
   rw[e',List.mem_append] at hk;exact hk.elim (RdO.obj a _ _ _ h1 k) (RdO.obj b _ _ _ h2 k)
 | .own _,_,_,_,⟨v,e,hr⟩,k,hk=>by
   rcases hr with⟨_,_,e⟩|⟨b,cap,cs,E,fr,e,e1,e2,_⟩
   . rw[e] at hk;cases hk
   . rw[e] at hk;simp at hk;subst hk;exact⟨_,e2,fun l h=>by cases h⟩
 | .int _,_,_,_,hr,k,hk=>by rw[hr.1] at hk;cases hk
 | .bool,_,_,_,hr,k,hk=>by rw[hr.1] at hk;cases hk
 | .str,_,_,_,hr,k,hk=>by rw[hr.1] at hk;cases hk
 | .opq,_,_,_,hr,k,hk=>by rw[hr.1] at hk;cases hk
 | .unit,_,_,_,hr,k,hk=>by rw[hr.1] at hk;cases hk
 | .arr _ _,_,_,_,hr,k,hk=>by rw[hr.1] at hk;cases hk
 | .sl _,_,_,_,hr,k,hk=>by rw[hr.1] at hk;cases hk
 | .ptr _,_,_,_,hr,k,hk=>by rw[hr.1] at hk;cases hk
 | .any,_,_,_,hr,k,hk=>by rw[hr.1] at hk;cases hk
 | .byt _,_,_,_,hr,k,hk=>by rw[hr.1] at hk;cases hk
 | .self _,_,_,_,hr,k,hk=>by rw[hr.1] at hk;cases hk
 | .fn _ _,_,_,_,hr,k,hk=>by rw[hr.1] at hk;cases hk
 | .ifc _ _,_,_,_,hr,k,hk=>by rw[hr.1] at hk;cases hk
 | .nod,_,_,_,hr,k,hk=>by rw[hr.1] at hk;cases hk
 | .mp _ _,_,_,_,⟨_,_,hr⟩,k,hk=>hr.obj k hk
 | .nb t,_,_,_,hr,k,hk=>by
   rcases hr with⟨_,_,e⟩|⟨y,b,cs',E,fr,bs',e1,e2,e3,e4,e5,e6⟩
   . rw[e] at hk;cases hk
   . rw[e3] at hk;rcases List.mem_cons.1 hk with rfl|hk
     . exact⟨_,e4,fun l h=>by cases h⟩
     . exact RdO.obj t _ _ _ e6 k hk
theorem VRO.obj {h S:Hp}{t:T}{x:t.den}{v:Value}{o:List Nat}(hx:VRO h S t x v o):∀ b∈o,∃ ob,h b=some ob/\∀ l,ob ≠ .deferred l:=by
 unfold VRO at hx;split at hx
 . obtain⟨_,_,hr⟩:=hx;exact hr.obj _ _ _ _
 . exact hx.obj _ _ _ _
theorem OTup.obj {h S:Hp}:∀ {l:List Dat} {vs:List Value} {o:List Nat},OTup h S l vs o->∀ b∈o,∃ ob,h b=some ob/\∀ l,ob ≠ .deferred l
 | [],_,_,⟨_,e⟩,b,hb=>by rw[e] at hb;cases hb
 | _::_,_,_,⟨_,_,_,_,_,e2,h1,h2⟩,b,hb=>by
   rw[e2,List.mem_append] at hb;exact hb.elim (h1.obj b) (OTup.obj h2 b)
theorem ARel.obj {h S:Hp}{tv:Nat->Value}{x:A}{v:Value}{o:List Nat}(hx:ARel h S tv x v o):∀ b∈o,∃ ob,h b=some ob/\∀ l,ob ≠ .deferred l:=by
 intro b hb;cases x with
 | row t xs =>
   rcases hx with⟨_,_,e⟩|⟨b',cap,cs,E,fr,e,e1,e2,_⟩
   . rw[e] at hb;cases hb
   . rw[e] at hb;simp at hb;subst hb;exact⟨_,e2,fun l h=>by cases h⟩
 | box t x =>
   obtain⟨b',cs,E,fr,bs,e,e1,e2,h1,h2⟩:=hx;rw[e] at hb;rcases List.mem_cons.1 hb with rfl|hb
   . exact⟨_,e2,fun l h=>by cases h⟩
   . exact h2.obj _ _ _ _ b hb
 | iter s pos=>obtain⟨b',sp,e,e1,e2⟩:=hx;rw[e] at hb;simp at hb;subst hb;exact⟨_,e2,fun l h=>by cases h⟩
 | yld=>rw[hx.1] at hb;cases hb
 | ov t x=>exact hx.2.obj b hb
 | otup l=>obtain⟨vs,e,h1⟩:=hx;exact h1.obj b hb
 | _=>have:=hx.nil_of_not_own rfl;rw[this] at hb;cases hb
theorem ARel.main {h S:Hp} {tv:Nat->Value} {x:A} {v:Value} {o:List Nat} (hx:ARel h S tv x v o) (ho:x.own=true) {b:Nat} (hb:z1q v=some b):b∈o:=by
 cases x<;>simp[A.own] at ho
 case row t xs =>
  rcases hx with⟨_,⟨ad,e,_⟩,_⟩|⟨b',cap,cs,E,fr,e,e1,e2,_⟩
  . rw[e] at hb;unfold z1q at hb;split at hb<;>first|(rename_i h;cases h)|cases hb
  . rw[e1] at hb;cases cap with
    | zero=>simp[z1q] at hb
    | succ n=>simp[z1q] at hb;subst hb;simp[e]
 case box t x=>obtain⟨b',cs,E,fr,bs,e,e1,e2,h1,h2⟩:=hx;rw[e1] at hb;simp[z1q] at hb;subst hb;simp[e]
 case iter s pos =>
  obtain⟨b',sp,e,e1,e2⟩:=hx;rw[e1] at hb;cases sp with
  | none=>simp[z1q] at hb;subst hb;simp[e]
  | some k=>simp[z1q] at hb
 case yld=>rw[hx.2] at hb;cases hb
 case otup l=>obtain⟨vs,e,_⟩:=hx;rw[e] at hb;simp[z1q] at hb
 case ov t x =>
  obtain⟨ht,hx⟩:=hx;unfold VRO at hx;split at hx
  . obtain⟨cs,e,_⟩:=hx;rw[e] at hb;simp[z1q] at hb
  . rename_i hna;cases t<;>simp[ovT,hna] at ht<;>(try (simp[T.isAgg] at ht hna))
    case own u =>
     obtain⟨v',e,hr⟩:=hx;cases e;rcases hr with⟨_,⟨ad,e,_⟩,_⟩|⟨b',cap,cs,E,fr,e,e1,e2,_⟩
     . rw[e] at hb;unfold z1q at hb;split at hb<;>first|(rename_i h;cases h)|cases hb
     . rw[e1] at hb;cases cap with
       | zero=>simp[z1q] at hb
       | succ n=>simp[z1q] at hb;subst hb;simp[e]
    case mp k v' =>
     obtain⟨v',e,hr⟩:=hx;cases e;rcases hr with⟨_,e,_⟩|⟨xs,b',es,cl,e,e1,e2,_⟩
     . rw[e] at hb;simp[z1q] at hb
     . rw[e2] at hb;simp[z1q] at hb
    case nb u =>
     rcases hx with⟨_,e,_⟩|⟨y,b',cs',E,fr,bs',e1,e2,e3,_⟩
     . cases e;simp[z1q] at hb
     . cases e2;simp[z1q] at hb;subst hb;simp[e3]
theorem SimD.main {c:Ctx}{st:List A}{a:Act}{w:World}{S:Hp}{ob:Nat->List Nat}(h:SimD c st a w S ob){i r b:Nat}{x:A}(hi:st[i]?=some x)(hr:r∈x.refs)(hb:z1q (tv a r)=some b):b∈ob r:=by
 obtain⟨y,hy,ho⟩:=h.refs i x r hi hr;exact (h.rel r y hy).main ho hb
def zjz (r:Nat)(x:A):A:=match x with
 | .bor s=>bif s == r then .dead else x
 | .adr s _ _=>bif s == r then .dead else x
 | .cel s _ _=>bif s == r then .dead else x
 | .pel s _ _ _ _=>bif s == r then .dead else x
 | .psl s _ _ _ _ _ _=>bif s == r then .dead else x
 | .clo _ rs=>bif rs.contains r then .dead else x
 | _=>x
def z5p (st:List A)(t:Nat)(x:A):List A :=
 match st.getD t .dead with
 | .row .. | .box .. | .iter .. | .yld | .ov .. | .otup ..=>(st.map (zjz t)).set t x
 | _=>st.set t x
def zh1 (r:Nat)(x:A):A:=match x with
 | .cel s _ _=>bif s == r then .dead else x
 | .pel s _ _ _ _=>bif s == r then .dead else x
 | .psl s _ _ _ _ _ _=>bif s == r then .dead else x
 | _=>x
def z1j (st:List A)(r:Nat)(x:A):List A:=(st.map (zh1 r)).set r x
theorem zc8 (r:Nat)(x:A):(zjz r x=x/\r∉x.refs)\/(zjz r x=.dead/\r∈x.refs):=by
 cases x<;>simp only[zjz,A.refs]
 case bor s =>
  cases h:s == r
  . exact .inl ⟨rfl,by simpa using fun e=>by simp[e] at h⟩
  . exact .inr ⟨rfl,by simp at h;simp[h]⟩
 case adr s t p =>
  cases h:s == r
  . exact .inl ⟨rfl,by simpa using fun e=>by simp[e] at h⟩
  . exact .inr ⟨rfl,by simp at h;simp[h]⟩
 case cel s t p =>
  cases h:s == r
  . exact .inl ⟨rfl,by simpa using fun e=>by simp[e] at h⟩
  . exact .inr ⟨rfl,by simp at h;simp[h]⟩
 case pel s n p u q =>
  cases h:s == r
  . exact .inl ⟨rfl,by simpa using fun e=>by simp[e] at h⟩
  . exact .inr ⟨rfl,by simp at h;simp[h]⟩
 case psl s n p u q lo hi =>
  cases h:s == r
  . exact .inl ⟨rfl,by simpa using fun e=>by simp[e] at h⟩
  . exact .inr ⟨rfl,by simp at h;simp[h]⟩
 case clo f rs =>
  cases h:rs.contains r
  . exact .inl ⟨rfl,by simpa using h⟩
  . exact .inr ⟨rfl,by simpa using h⟩
 all_goals simp
theorem z9f (r:Nat)(x:A):(zh1 r x=x/\x.cell≠some r)\/(zh1 r x=.dead/\x.cell=some r/\x.own=false):=by
 cases x<;>simp only[zh1,A.cell,A.own]
 case cel s t p =>
  cases h:s == r
  . exact .inl ⟨rfl,by simpa using h⟩
  . exact .inr ⟨rfl,by simpa using h,trivial⟩
 case pel s n p u q =>
  cases h:s == r
  . exact .inl ⟨rfl,by simpa using h⟩
  . exact .inr ⟨rfl,by simpa using h,trivial⟩
 case psl s n p u q lo hi =>
  cases h:s == r
  . exact .inl ⟨rfl,by simpa using h⟩
  . exact .inr ⟨rfl,by simpa using h,trivial⟩
 all_goals simp
theorem zlt (r:Nat)(x:A):(zh1 r x).own=x.own:=by
 rcases z9f r x with⟨e,_⟩|⟨e,_,h⟩
 . rw[e]
 . rw[e,h];rfl
theorem z1u (st:List A)(t:Nat)(x:A):(z5p st t x).length=st.length:=by
 unfold z5p;split<;>simp
theorem z24 (st:List A)(t:Nat)(x:A):(z1j st t x).length=st.length:=by simp[z1j]
theorem zgo (st:List A)(t:Nat)(x:A)(ht:t<st.length):(z5p st t x)[t]?=some x:=by
 unfold z5p;split<;>simp[ht]
theorem z3w (st:List A)(t:Nat)(x:A)(ht:t<st.length):(z1j st t x)[t]?=some x:=by simp[z1j,ht]
theorem z41 {st:List A}{r:Nat}{x y:A}{i:Nat}(hi:i≠r)(h:(z1j st r x)[i]?=some y):(st[i]?=some y/\y.cell≠some r)\/(y=.dead/\∃ z,st[i]?=some z/\z.own=false):=by
 rw[z1j,List.getElem?_set_ne (Ne.symm hi),List.getElem?_map] at h;cases hz:st[i]? with
 | none=>simp[hz] at h
 | some z =>
   simp[hz] at h;rcases z9f r z with⟨e,hr⟩|⟨e,hr,ho⟩
   . rw[e] at h;subst h;exact .inl ⟨rfl,hr⟩
   . rw[e] at h;subst h;exact .inr ⟨rfl,z,rfl,ho⟩
theorem z7c {st:List A} {t:Nat} {x y:A} {i:Nat} (hi:i≠t) (hrefs:∀ (i:Nat) (x:A) (r:Nat),st[i]?=some x->r∈x.refs->∃ y:A,st[r]?=some y/\y.own=true)
 (h:(z5p st t x)[i]?=some y):(st[i]?=some y/\t∉y.refs)\/(y=.dead/\∃ z,st[i]?=some z/\z.own=false):=by
 have hcase:(((st.map (zjz t)).set t x)[i]?=some y->(st[i]?=some y/\t∉y.refs)\/(y=.dead/\∃ z,st[i]?=some z/\z.own=false)):=by
  intro h;rw[List.getElem?_set_ne (Ne.symm hi),List.getElem?_map] at h;cases hz:st[i]? with
  | none=>simp[hz] at h
  | some z =>
    simp[hz] at h;rcases zc8 t z with⟨e,hr⟩|⟨e,hr⟩
    . rw[e] at h;subst h;exact .inl ⟨rfl,hr⟩
    . rw[e] at h;subst h;exact .inr ⟨rfl,z,rfl,by cases z<;>simp[A.refs] at hr<;>rfl⟩
 unfold z5p at h;split at h
 . exact hcase h
 . exact hcase h
 . exact hcase h
 . exact hcase h
 . exact hcase h
 . exact hcase h
 . rename_i h1 h2 h3 h4 h5 h6;rw[List.getElem?_set_ne (Ne.symm hi)] at h;refine .inl ⟨h,fun hr=>?_⟩;obtain⟨z,hz,ho⟩:=hrefs i y t h hr;have hz':st.getD t .dead=z:=by simp[List.getD,hz]
   cases z<;>simp[A.own] at ho
   . exact h1 _ _ hz'
   . exact h2 _ _ hz'
   . exact h3 _ _ hz'
   . exact h4 hz'
   . exact h5 _ _ hz'
   . exact h6 _ hz'
theorem z1b9 (a:Act)(t:Nat)(v:Value)(i:Nat)(ht:t<a.tmps.size):tv (a.put (some t) v) i=if i=t then v else tv a i:=by
 simp only[tv,Act.put,Array.getD_eq_getD_getElem?];by_cases h:i=t
 . subst h;simp[ht]
 . rw[if_neg h,Array.getElem?_setIfInBounds_ne (Ne.symm h)]
theorem SimD.put {c:Ctx} {st:List A} {a:Act} {w:World} {S:Hp} {ob:Nat->List Nat} (h:SimD c st a w S ob) {t:Nat} {x:A} {v:Value} {o:List Nat}
 (ht:t<st.length) (hl:∀ p∈c.lent,p.1≠t) (hx:ARel (hp w) S (tv a) x v o) (hr:∀ r∈x.refs,r≠t/\∃ y,st[r]?=some y/\y.own=true)
 (ho:∀ b∈o,(∀ i,i≠t->b∉ob i)/\S b=none/\(c.B0 b\/c.w0.heap.size<=b)) (hnd:o.Nodup) :
 SimD c (z5p st t x) (a.put (some t) v) w S (fun i=>if i=t then o else ob i):=by
 have hsz:=h.size;have htv:∀ i,tv (a.put (some t) v) i=if i=t then v else tv a i:=fun i=>z1b9 a t v i (by omega)
 constructor
 . refine h.defers.turn fun D h1 h2 h3 h4=>⟨h1,h2,fun i hi=>?_⟩
   split at hi
   . obtain⟨o1,e1,hne⟩:=hx.obj D hi;rw[h1] at e1;cases e1;exact hne _ rfl
   . exact h3 i hi
 . rw[z1u];simpa[Act.put] using h.size
 . intro i y hy;by_cases hi:i=t
   . subst hi;rw[zgo _ _ _ ht] at hy;simp at hy;subst hy;simp only[htv,if_true];exact hx.mono (Sub.refl _) (fun _ _=>rfl) (fun r hr'=>by rw[htv,if_neg (hr r hr').1]) (fun _ _ _ _=>rfl)
   . simp only[htv,if_neg hi];rcases z7c hi h.refs hy with⟨hy',hne⟩|⟨rfl,z,hz,hzo⟩
     . exact (h.rel i y hy').mono (Sub.refl _) (fun _ _=>rfl) (fun r hr'=>by rw[htv,if_neg (fun e=>hne (by rw[<- e];exact hr'))]) (fun _ _ _ _=>rfl)
     . exact (h.rel i z hz).nil_of_not_own hzo
 . intro i y r hy hyr;have key:∀ r,r≠t->(∃ z,st[r]?=some z/\z.own=true)->∃ z,(z5p st t x)[r]?=some z/\z.own=true:=by
    intro r hrt ⟨z,hz,hzo⟩;have:∃ u,(z5p st t x)[r]?=some u:=by
     have:r<(z5p st t x).length:=by
      rw[z1u];rcases Nat.lt_or_ge r st.length with hlt|hge
      . exact hlt
      . simp[List.getElem?_eq_none hge] at hz
     exact⟨_,List.getElem?_eq_getElem this⟩
    obtain⟨u,hu⟩:=this;rcases z7c hrt h.refs hu with⟨hu',_⟩|⟨_,z',hz',hzo'⟩
    . rw[hz] at hu';simp at hu';subst hu';exact⟨z,hu,hzo⟩
    . rw[hz] at hz';simp at hz';subst hz';simp[hzo] at hzo'
   by_cases hi:i=t
   . subst hi;rw[zgo _ _ _ ht] at hy;simp at hy;subst hy;exact key r (hr r hyr).1 (hr r hyr).2
   . rcases z7c hi h.refs hy with⟨hy',hne⟩|⟨rfl,_⟩
     . exact key r (fun e=>hne (by rw[<- e];exact hyr)) (h.refs i y r hy' hyr)
     . simp[A.refs] at hyr
 . intro i hi;rw[z1u] at hi;simp only[if_neg (show ¬ i=t by omega)];exact h.out i hi
 . intro i j b hi hj;split at hi<;>split at hj
   . omega
   . rename_i e1 e2;exact absurd hj ((ho b hi).1 j e2)
   . rename_i e1 e2;exact absurd hi ((ho b hj).1 i e1)
   . exact h.inj i j b hi hj
 . intro i;split
   . exact hnd
   . exact h.nd i
 . intro i b hi;split at hi
   . exact (ho b hi).2.1
   . exact h.hid i b hi
 . exact h.sub
 . exact h.mono
 . intro i b hi;split at hi
   . exact (ho b hi).2.2
   . exact h.fresh i b hi
 . exact h.newS
 . intro p hp';rw[htv,if_neg (hl p hp')];exact h.lent p hp'
 . exact h.frame
theorem SimD.drop {c:Ctx} {st:List A} {a:Act} {w:World} {S:Hp} {ob:Nat->List Nat} (h:SimD c st a w S ob) {t:Nat} (ht:t<st.length) :
 SimD c (z5p st t .dead) a w S (fun i=>if i=t then [] else ob i):=by
 constructor
 . refine h.defers.turn fun D h1 h2 h3 h4=>⟨h1,h2,fun i hi=>?_⟩
   split at hi
   . cases hi
   . exact h3 i hi
 . rw[z1u];exact h.size
 . intro i y hy;by_cases hi:i=t
   . subst hi;rw[zgo _ _ _ ht] at hy;simp at hy;subst hy;simp[ARel]
   . simp only[if_neg hi];rcases z7c hi h.refs hy with⟨hy',hne⟩|⟨rfl,z,hz,hzo⟩
     . exact h.rel i y hy'
     . exact (h.rel i z hz).nil_of_not_own hzo
 . intro i y r hy hyr;by_cases hi:i=t
   . subst hi;rw[zgo _ _ _ ht] at hy;simp at hy;subst hy;simp[A.refs] at hyr
   . rcases z7c hi h.refs hy with⟨hy',hne⟩|⟨rfl,_⟩
     . obtain⟨z,hz,hzo⟩:=h.refs i y r hy' hyr;have hrt:r≠t:=fun e=>hne (by rw[<- e];exact hyr)
       have:r<(z5p st t .dead).length:=by
        rw[z1u];rcases Nat.lt_or_ge r st.length with hlt|hge
        . exact hlt
        . simp[List.getElem?_eq_none hge] at hz
       have hu:=List.getElem?_eq_getElem this;rcases z7c hrt h.refs hu with⟨hu',_⟩|⟨_,z',hz',hzo'⟩
       . rw[hz] at hu';simp at hu';exact⟨_,hu,by rw[<- hu'];exact hzo⟩
       . rw[hz] at hz';simp at hz';subst hz';simp[hzo] at hzo'
     . simp[A.refs] at hyr
 . intro i hi;rw[z1u] at hi;split
   . rfl
   . exact h.out i hi
 . intro i j b hi hj;split at hi<;>split at hj
   . omega
   . cases hi
   . cases hj
   . exact h.inj i j b hi hj
 . intro i;split
   . exact .nil
   . exact h.nd i
 . intro i b hi;split at hi
   . cases hi
   . exact h.hid i b hi
 . exact h.sub
 . exact h.mono
 . intro i b hi;split at hi
   . cases hi
   . exact h.fresh i b hi
 . exact h.newS
 . exact h.lent
 . exact h.frame
theorem ARel.cell_obj {h S:Hp}{tv:Nat->Value}{x:A}{v:Value}{o:List Nat}(hx:ARel h S tv x v o){r:Nat}(hr:x.cell=some r){b:Nat}(hb:z1q (tv r)=some b):∃ ob,h b=some ob:=by
 cases x<;>simp[A.cell] at hr
 case cel =>
  subst hr;obtain⟨_,b',cs,E,fr,e1,e2,_⟩:=hx;rw[e1] at hb;simp at hb;subst hb;exact⟨_,e2⟩
 case pel =>
  subst hr;obtain⟨_,b',cs,E,fr,_,_,_,e1,e2,_⟩:=hx;rw[e1] at hb;simp at hb;subst hb;exact⟨_,e2⟩
 case psl =>
  subst hr;obtain⟨_,b',cs,E,fr,_,_,_,e1,e2,_⟩:=hx;rw[e1] at hb;simp at hb;subst hb;exact⟨_,e2⟩
theorem A.cell_refs {x:A}{r:Nat}(h:x.cell=some r):r∈x.refs:=by
 cases x<;>simp[A.cell] at h
 case cel=>subst h;simp[A.refs]
 case pel=>subst h;simp[A.refs]
 case psl=>subst h;simp[A.refs]
theorem SimD.world {c:Ctx}{st:List A}{a:Act}{w w':World}{S:Hp}{ob:Nat->List Nat}(h:SimD c st a w S ob)(hs:Sub (hp w) (hp w'))(hf:WF c.w0 c.B0 w') :
 SimD c st a w' S ob:=by
 refine⟨h.defers.turn fun D h1 h2 h3 h4=>⟨hs _ _ h1,h2,h3⟩,h.size,?_,h.refs,h.out,h.inj,h.nd,h.hid,h.sub.trans hs,h.mono,h.fresh,h.newS,h.lent,hf⟩;intro i x hx;have hx':=h.rel i x hx;refine hx'.mono (Sub.refl _) (fun b hb=>?_) (fun _ _=>rfl) (fun r hr b hb=>?_)
 . obtain⟨o,ho,_⟩:=hx'.obj b hb;rw[ho,hs b o ho]
 . obtain⟨o,ho⟩:=hx'.cell_obj hr hb;rw[ho,hs b o ho]
theorem SimD.content' {c:Ctx} {st:List A} {a:Act} {w w':World} {S:Hp} {ob:Nat->List Nat} (h:SimD c st a w S ob) {r b:Nat} {x:A} {o':List Nat} (hr:r<st.length) (hb:b∈ob r)
 (hx:ARel (hp w') S (tv a) x (tv a r) o') (hxo:x.own=true) (hnd:o'.Nodup) (ho:∀ k∈o',k∈ob r\/((∀ i,k∉ob i)/\S k=none/\(c.B0 k\/c.w0.heap.size<=k)))
 (hsame:∀ b',b'≠b->hp w' b'=hp w b') (hf:WF c.w0 c.B0 w') :
 SimD c (z1j st r x) a w' S (fun i=>if i=r then o' else ob i):=by
 have hxr:x.refs=[]:=by cases x<;>simp[A.own] at hxo<;>rfl
 have hown:∀ k,k∈o'->∀ i,i≠r->k∉ob i:=fun k hk i hi hki=>(ho k hk).elim (fun h1=>hi (h.inj i r k hki h1)) (fun h1=>h1.1 i hki)
 refine⟨h.defers.turn fun D h1 h2 h3 h4=>?_,by rw[z24];exact h.size,?_,?_,fun i hi=>?_,fun i j k hi hj=>?_,fun i=>?_,fun i k hi=>?_,?_,h.mono,fun i k hi=>?_,h.newS,h.lent,hf⟩
 . have hDb:D≠b:=fun e=>h3 r (by rw[e];exact hb)
   refine⟨by rw[hsame D hDb];exact h1,h2,fun i hi=>?_⟩;split at hi
   . obtain⟨o1,e1,hne⟩:=hx.obj D hi;rw[hsame D hDb,h1] at e1;cases e1;exact hne _ rfl
   . exact h3 i hi
 . intro i y hy;by_cases hi:i=r
   . subst hi;rw[z3w _ _ _ hr] at hy;simp at hy;subst hy;simp only[if_true];exact hx
   . simp only[if_neg hi];rcases z41 hi hy with⟨hy',hne⟩|⟨rfl,z,hz,hzo⟩
     . refine (h.rel i y hy').mono (Sub.refl _) (fun b' hb'=>hsame b' ?_) (fun _ _=>rfl) (fun s hs b' hb'=>hsame b' ?_)
       . intro e;subst e;exact hi (h.inj i r _ hb' hb)
       . intro e;subst e;have:=h.main hy' (A.cell_refs hs) hb';have:=h.inj s r _ this hb;subst this;exact hne hs
     . exact (h.rel i z hz).nil_of_not_own hzo
 . intro i y s hy hys;have key:∀ s:Nat,(∃ z:A,st[s]?=some z/\z.own=true)->∃ z:A,(z1j st r x)[s]?=some z/\z.own=true:=by
    intro s ⟨z,hz,hzo⟩;by_cases hs:s=r
    . subst hs;exact⟨x,z3w _ _ _ hr,hxo⟩
    . refine⟨zh1 r z,by rw[z1j,List.getElem?_set_ne (Ne.symm hs),List.getElem?_map,hz];rfl,by rw[zlt];exact hzo⟩
   by_cases hi:i=r
   . subst hi;rw[z3w _ _ _ hr] at hy;simp at hy;subst hy;rw[hxr] at hys;cases hys
   . rcases z41 hi hy with⟨hy',_⟩|⟨rfl,_⟩
     . exact key s (h.refs i y s hy' hys)
     . simp[A.refs] at hys
 . rw[z24] at hi;simp only[if_neg (show ¬ i=r by omega)];exact h.out i hi
 . split at hi<;>split at hj
   . omega
   . rename_i e1 e2;exact absurd hj (hown k hi j e2)
   . rename_i e1 e2;exact absurd hi (hown k hj i e1)
   . exact h.inj i j k hi hj
 . split
   . exact hnd
   . exact h.nd i
 . split at hi
   . exact (ho k hi).elim (fun h1=>h.hid r k h1) (fun h1=>h1.2.1)
   . exact h.hid i k hi
 . intro b' o hbo;rw[hsame b' (fun e=>by subst e;rw[h.hid r _ hb] at hbo;simp at hbo)];exact h.sub b' o hbo
 . split at hi
   . exact (ho k hi).elim (fun h1=>h.fresh r k h1) (fun h1=>h1.2.2)
   . exact h.fresh i k hi
theorem SimD.content0 {c:Ctx}{st:List A}{a:Act}{w w':World}{S:Hp}{ob:Nat->List Nat}(h:SimD c st a w S ob){r:Nat}{x:A}{o':List Nat}(hr:r<st.length)
 (hx:ARel (hp w') S (tv a) x (tv a r) o') (hxo:x.own=true) (hnd:o'.Nodup) (ho:∀ k∈o',k∈ob r\/((∀ i,k∉ob i)/\S k=none/\(c.B0 k\/c.w0.heap.size<=k)))
 (hsame:∀ b',hp w' b'=hp w b') (hf:WF c.w0 c.B0 w') :
 SimD c (z1j st r x) a w' S (fun i=>if i=r then o' else ob i):=by
 have hxr:x.refs=[]:=by cases x<;>simp[A.own] at hxo<;>rfl
 have hown:∀ k,k∈o'->∀ i,i≠r->k∉ob i:=fun k hk i hi hki=>(ho k hk).elim (fun h1=>hi (h.inj i r k hki h1)) (fun h1=>h1.1 i hki)
 refine⟨h.defers.turn fun D h1 h2 h3 h4=>?_,by rw[z24];exact h.size,?_,?_,fun i hi=>?_,fun i j k hi hj=>?_,fun i=>?_,fun i k hi=>?_,?_,h.mono,fun i k hi=>?_,h.newS,h.lent,hf⟩
 . refine⟨by rw[hsame D];exact h1,h2,fun i hi=>?_⟩;split at hi
   . obtain⟨o1,e1,hne⟩:=hx.obj D hi;rw[hsame D,h1] at e1;cases e1;exact hne _ rfl
   . exact h3 i hi
 . intro i y hy;by_cases hi:i=r
   . subst hi;rw[z3w _ _ _ hr] at hy;simp at hy;subst hy;simp only[if_true];exact hx
   . simp only[if_neg hi];rcases z41 hi hy with⟨hy',hne⟩|⟨rfl,z,hz,hzo⟩
     . exact (h.rel i y hy').mono (Sub.refl _) (fun b' hb'=>hsame b') (fun _ _=>rfl) (fun s hs b' hb'=>hsame b')
     . exact (h.rel i z hz).nil_of_not_own hzo
 . intro i y s hy hys;have key:∀ s:Nat,(∃ z:A,st[s]?=some z/\z.own=true)->∃ z:A,(z1j st r x)[s]?=some z/\z.own=true:=by
    intro s ⟨z,hz,hzo⟩;by_cases hs:s=r
    . subst hs;exact⟨x,z3w _ _ _ hr,hxo⟩
    . refine⟨zh1 r z,by rw[z1j,List.getElem?_set_ne (Ne.symm hs),List.getElem?_map,hz];rfl,by rw[zlt];exact hzo⟩
   by_cases hi:i=r
   . subst hi;rw[z3w _ _ _ hr] at hy;simp at hy;subst hy;rw[hxr] at hys;cases hys
   . rcases z41 hi hy with⟨hy',_⟩|⟨rfl,_⟩
     . exact key s (h.refs i y s hy' hys)
     . simp[A.refs] at hys
 . rw[z24] at hi;simp only[if_neg (show ¬ i=r by omega)];exact h.out i hi
 . split at hi<;>split at hj
   . omega
   . rename_i e1 e2;exact absurd hj (hown k hi j e2)
   . rename_i e1 e2;exact absurd hi (hown k hj i e1)
   . exact h.inj i j k hi hj
 . split
   . exact hnd
   . exact h.nd i
 . split at hi
   . exact (ho k hi).elim (fun h1=>h.hid r k h1) (fun h1=>h1.2.1)
   . exact h.hid i k hi
 . intro b' o hbo;rw[hsame b'];exact h.sub b' o hbo
 . split at hi
   . exact (ho k hi).elim (fun h1=>h.fresh r k h1) (fun h1=>h1.2.2)
   . exact h.fresh i k hi
theorem SimD.content {c:Ctx}{st:List A}{a:Act}{w w':World}{S:Hp}{ob:Nat->List Nat}(h:SimD c st a w S ob){r b:Nat}{x:A}(hr:r<st.length)(hb:b∈ob r)
 (hx:ARel (hp w') S (tv a) x (tv a r) (ob r)) (hxo:x.own=true) (hsame:∀ b',b'≠b->hp w' b'=hp w b') (hf:WF c.w0 c.B0 w') :
 SimD c (z1j st r x) a w' S ob:=by
 have:=h.content' hr hb hx hxo (h.nd r) (fun k hk=>.inl hk) hsame hf;have e:(fun i=>if i=r then ob r else ob i)=ob:=by funext i;split<;>simp_all
 rwa [e] at this
theorem SimD.share {c:Ctx}{st:List A}{a:Act}{w:World}{S:Hp}{ob:Nat->List Nat}(h:SimD c st a w S ob)(L:List Nat)
 (hL:∀ k∈L,(∀ i,k∉ob i)/\S k=none/\(c.B0 k\/c.w0.heap.size<=k)/\∃ o,hp w k=some o/\∀ l,o ≠ .deferred l) :
 Sub S (fun b=>if b∈L then hp w b else S b)/\SimD c st a w (fun b=>if b∈L then hp w b else S b) ob:=by
 have hSS:Sub S (fun b=>if b∈L then hp w b else S b):=fun b o hbo=>by
  dsimp only;split
  . rename_i e;rw[(hL b e).2.1] at hbo;simp at hbo
  . exact hbo
 refine⟨hSS,h.defers.turn fun D h1 h2 h3 h4=>⟨h1,?_,h3⟩,h.size,fun i x hx=>(h.rel i x hx).mono hSS (fun _ _=>rfl) (fun _ _=>rfl) (fun _ _ _ _=>rfl),h.refs,h.out,h.inj,h.nd,fun i b hi=>?_,fun b o hbo=>?_,h.mono.trans hSS,h.fresh,fun b hb=>?_,h.lent,h.frame⟩
 . split
   . rename_i e;obtain⟨o,ho,hne⟩:=(hL D e).2.2.2;rw[h1] at ho;cases ho;exact absurd rfl (hne _)
   . exact h2
 . split
   . rename_i e;exact absurd hi ((hL b e).1 i)
   . exact h.hid i b hi
 . split at hbo
   . exact hbo
   . exact h.sub b o hbo
 . split at hb
   . rename_i e;exact .inr (hL b e).2.2.1
   . exact h.newS b hb
def frz:T->T
 | .own u=>.sl u
 | .pair a b=>.pair (frz a) (frz b)
 | .mp _ _=>.any
 | .nb _=>.any
 | t=>t
def zra:(t:T)->t.den->(frz t).den
 | .own _,x=>x
 | .pair a b,x=>(zra a x.1,zra b x.2)
 | .int _,x=>x
 | .bool,x=>x
 | .str,x=>x
 | .opq,x=>x
 | .unit,x=>x
 | .arr _ _,x=>x
 | .sl _,x=>x
 | .ptr _,x=>x
 | .self _,x=>x
 | .any,x=>x
 | .byt _,x=>x
 | .fn _ _,x=>x
 | .ifc _ _,x=>x
 | .nod,x=>x
 | .mp _ _,_=>()
 | .nb _,_=>()
def fgt:T->T
 | .own _=>.any
 | .pair a b=>.pair (fgt a) (fgt b)
 | .mp _ _=>.any
 | .nb _=>.any
 | t=>t
def z104:(t:T)->t.den->(fgt t).den
 | .own _,_=>()
 | .pair a b,x=>(z104 a x.1,z104 b x.2)
 | .int _,x=>x
 | .bool,x=>x
 | .str,x=>x
 | .opq,x=>x
 | .unit,x=>x
 | .arr _ _,x=>x
 | .sl _,x=>x
 | .ptr _,x=>x
 | .self _,x=>x
 | .any,x=>x
 | .byt _,x=>x
 | .fn _ _,x=>x
 | .ifc _ _,x=>x
 | .nod,x=>x
 | .mp _ _,_=>()
 | .nb _,_=>()
def zv5 (r:Nat)(y x:A):A:=match x with
 | .bor s=>bif s == r then y else x
 | .adr s _ _=>bif s == r then .dead else x
 | .cel s _ _=>bif s == r then .dead else x
 | .pel s _ _ _ _=>bif s == r then .dead else x
 | .psl s _ _ _ _ _ _=>bif s == r then .dead else x
 | .clo _ rs=>bif rs.contains r then .dead else x
 | _=>x
def zyk:(t:T)->t.den->Option A
 | .nb _,none=>some (.v .opq (.pointer none))
 | .nb _,some _=>none
 | t,y=>match noOwn (frz t) with
   | true=>some (.v (frz t) (zra t y))
   | false=>none
def z12w (t:T):Bool:=match t with
 | .nb _=>false
 | t=>noOwn (frz t)
theorem zql {t:T}{y:t.den}(h:z12w t=true):zyk t y=some (.v (frz t) (zra t y)):=by
 cases t<;>simp_all [z12w,zyk]
def zxn (x:A):Option A:=match x with
 | .row t xs=>some (.v (.sl t) xs)
 | .box t y=>(match noOwn t with
   | true=>some (.v (.ptr t) y)
   | false=>none)
 | .ov t y=>zyk t y
 | _=>none
def z97 (st:List A)(r:Nat):List A :=
 match zxn (st.getD r .dead) with
 | some y=>(st.map (zv5 r y)).set r y
 | none=>st
theorem z3b (st:List A)(r:Nat):(z97 st r).length=st.length:=by
 unfold z97;split<;>simp
theorem RowRel.shared {h S S':Hp}{t:T}{xs:List t.den}{v:Value}{o:List Nat}(hx:RowRel h S t xs v o)(hS:Sub S S')(ho:∀ b∈o,S' b=h b):VR S' (.sl t) xs v:=by
 refine VR.of_one rfl ?_;rcases hx with⟨rfl,⟨ad,rfl,_⟩,_⟩|⟨b,cap,cs,E,fr,e,rfl,e2,h1,h2,h3,h4⟩
 . exact⟨ad,0,rfl,by simp,.inl rfl⟩
 . refine⟨some ⟨b,0,none⟩,cap,rfl,h3,.inr ⟨b,0,_,rfl,⟨cs,E,fr,[],cs.toList.drop (xs.length*t.size),?_,by simp,rfl⟩,All.mono (Rd.mono hS t) _ _ h4.1⟩⟩;rw[ho b (by simp[e]),e2]
theorem RdO.frz {m:Nat×Nat}{h S S':Hp}(hS:Sub S S'):∀ (t:T) (x:t.den) (cs:List Value) (bs:List Nat),(∀ k∈bs,S' k=h k)->RdO m h S t x cs bs->RdO m h S' (frz t) (zra t x) cs []
 | .own u,x,_,_,ho,⟨v,e,hr⟩=>⟨rfl,by
  have:=RowRel.shared hr hS ho;unfold VR at this;rw[e];show Rd S' (.sl u) x [v];simpa[T.isAgg] using this⟩
 | .pair a b,x,_,_,ho,⟨c1,c2,b1,b2,e,e',h1,h2⟩ =>
   ⟨c1,c2,[],[],e,rfl,RdO.frz hS a _ _ _ (fun k hk=>ho k (by simp[e',hk])) h1,RdO.frz hS b _ _ _ (fun k hk=>ho k (by simp[e',hk])) h2⟩
 | .int _,_,_,_,_,⟨_,hr⟩=>⟨rfl,Rd.mono hS _ _ _ hr⟩
 | .bool,_,_,_,_,⟨_,hr⟩=>⟨rfl,Rd.mono hS _ _ _ hr⟩
 | .str,_,_,_,_,⟨_,hr⟩=>⟨rfl,Rd.mono hS _ _ _ hr⟩
 | .opq,_,_,_,_,⟨_,hr⟩=>⟨rfl,Rd.mono hS _ _ _ hr⟩
 | .unit,_,_,_,_,⟨_,hr⟩=>⟨rfl,Rd.mono hS _ _ _ hr⟩
 | .arr _ _,_,_,_,_,⟨_,hr⟩=>⟨rfl,Rd.mono hS _ _ _ hr⟩
 | .sl _,_,_,_,_,⟨_,hr⟩=>⟨rfl,Rd.mono hS _ _ _ hr⟩
 | .ptr _,_,_,_,_,⟨_,hr⟩=>⟨rfl,Rd.mono hS _ _ _ hr⟩
 | .self _,_,_,_,_,⟨_,hr⟩=>⟨rfl,hr⟩
 | .any,_,_,_,_,⟨_,hr⟩=>⟨rfl,Rd.mono hS _ _ _ hr⟩
 | .byt _,_,_,_,_,⟨_,hr⟩=>⟨rfl,Rd.mono hS _ _ _ hr⟩
 | .fn _ _,_,_,_,_,⟨_,hr⟩=>⟨rfl,Rd.mono hS _ _ _ hr⟩
 | .ifc _ _,_,_,_,_,⟨_,hr⟩=>⟨rfl,Rd.mono hS _ _ _ hr⟩
 | .nod,_,_,_,_,⟨_,hr⟩=>⟨rfl,Rd.mono hS _ _ _ hr⟩
 | .mp _ _,_,_,_,_,⟨u,e,hr⟩=>⟨rfl,u,e,hr.one⟩
 | .nb _,_,_,_,_,hr=>⟨rfl,by rcases hr with⟨_,e,_⟩|⟨_,_,_,_,_,_,_,e,_⟩<;>exact⟨_,e,rfl⟩⟩
theorem RdO.fgt {m:Nat×Nat}{h S:Hp}:∀ (t:T) (x:t.den) (cs:List Value) (bs:List Nat),RdO m h S t x cs bs->RdO m h S (fgt t) (z104 t x) cs []
 | .own u,x,_,_,⟨v,e,hr⟩=>⟨rfl,v,e,hr.one⟩
 | .pair a b,x,_,_,⟨c1,c2,b1,b2,e,e',h1,h2⟩=>⟨c1,c2,[],[],e,rfl,RdO.fgt a _ _ _ h1,RdO.fgt b _ _ _ h2⟩
 | .int _,_,_,_,⟨_,hr⟩=>⟨rfl,hr⟩
 | .bool,_,_,_,⟨_,hr⟩=>⟨rfl,hr⟩
 | .str,_,_,_,⟨_,hr⟩=>⟨rfl,hr⟩
 | .opq,_,_,_,⟨_,hr⟩=>⟨rfl,hr⟩
 | .unit,_,_,_,⟨_,hr⟩=>⟨rfl,hr⟩
 | .arr _ _,_,_,_,⟨_,hr⟩=>⟨rfl,hr⟩
 | .sl _,_,_,_,⟨_,hr⟩=>⟨rfl,hr⟩
 | .ptr _,_,_,_,⟨_,hr⟩=>⟨rfl,hr⟩
 | .self _,_,_,_,⟨_,hr⟩=>⟨rfl,hr⟩
 | .any,_,_,_,⟨_,hr⟩=>⟨rfl,hr⟩
 | .byt _,_,_,_,⟨_,hr⟩=>⟨rfl,hr⟩
 | .fn _ _,_,_,_,⟨_,hr⟩=>⟨rfl,hr⟩
 | .ifc _ _,_,_,_,⟨_,hr⟩=>⟨rfl,hr⟩
 | .nod,_,_,_,⟨_,hr⟩=>⟨rfl,hr⟩
 | .mp _ _,_,_,_,⟨u,e,hr⟩=>⟨rfl,u,e,hr.one⟩
 | .nb _,_,_,_,hr=>⟨rfl,by rcases hr with⟨_,e,_⟩|⟨_,_,_,_,_,_,_,e,_⟩<;>exact⟨_,e,rfl⟩⟩
theorem zzz:∀ (t:T),(frz t).isAgg=t.isAgg:=by
 intro t;cases t<;>rfl
theorem ARel.row_shared {h S S':Hp}{tv:Nat->Value}{t:T}{xs:List t.den}{v:Value}{o:List Nat}(hx:ARel h S tv (.row t xs) v o)(hS:Sub S S')(ho:∀ b∈o,S' b=h b) :
 VR S' (.sl t) xs v:=RowRel.shared hx hS ho
theorem ARel.shared {h S S':Hp} {tv:Nat->Value} {x y:A} {v:Value} {o:List Nat} (hx:ARel h S tv x v o) (hS:Sub S S') (ho:∀ b∈o,S' b=h b) (hy:zxn x=some y):∃ t z,y=.v t z/\VR S' t z v:=by
 cases x<;>simp[zxn] at hy
 case row t xs=>subst hy;exact⟨_,_,rfl,RowRel.shared hx hS ho⟩
 case box t z =>
  split at hy
  . rename_i hn;simp at hy;subst hy;obtain⟨b,cs,E,fr,bs,e,e1,e2,h1,h2⟩:=hx;obtain⟨_,hr⟩:=h2.rd _ _ _ _ hn;subst e1;exact⟨_,_,rfl,VR.of_one rfl ⟨b,0,cs.toList,rfl,⟨cs,E,fr,[],[],by rw[ho b (by simp[e])];exact e2,by simp,rfl⟩,hr.mono hS⟩⟩
  . cases hy
 case ov t z =>
  have key:noOwn (frz t)=true->∃ t' z',A.v (frz t) (zra t z)=.v t' z'/\VR S' t' z' v:=fun hn=>by
   refine⟨_,_,rfl,?_⟩;obtain⟨_,hx⟩:=hx;unfold VRO at hx;split at hx
   . rename_i hg;obtain⟨cs,e,hr⟩:=hx;rw[e];exact VR.of_agg (by rw[zzz];exact hg) ((hr.frz hS _ _ _ _ ho).rd _ _ _ _ hn).2
   . rename_i hg;exact VR.of_one (by rw[zzz];simpa using hg) ((hx.frz hS _ _ _ _ ho).rd _ _ _ _ hn).2
  unfold zyk at hy;split at hy
  . simp at hy;subst hy;obtain⟨_,hx⟩:=hx;unfold VRO at hx;simp only[T.isAgg,Bool.false_eq_true,if_false] at hx;rcases hx with⟨_,e,_⟩|⟨_,_,_,_,_,_,e,_⟩
    . cases e;exact⟨_,_,rfl,VR.of_one rfl ⟨rfl,rfl⟩⟩
    . cases e
  . cases hy
  . split at hy
    . rename_i hn;simp at hy;subst hy;exact key hn
    . cases hy
theorem SimD.retire {c:Ctx} {st:List A} {a:Act} {w:World} {S:Hp} {ob:Nat->List Nat} (h:SimD c st a w S ob) {r:Nat} {x y:A} (hr:st[r]?=some x) (hy:zxn x=some y) :
 ∃ S' t z,Sub S S'/\y=.v t z/\VR S' t z (tv a r)/\SimD c (z97 st r) a w S' (fun i=>if i=r then [] else ob i):=by
 have hlt:r<st.length:=by
  rcases Nat.lt_or_ge r st.length with hlt|hge
  . exact hlt
  . simp[List.getElem?_eq_none hge] at hr
 have hx:=h.rel r _ hr
 let S':Hp:=fun b=>if b∈ob r then hp w b else S b
 have hSS:Sub S S':=fun b o hbo=>by
  show (if b∈ob r then hp w b else S b)=some o;split
  . rename_i e;rw[h.hid r b e] at hbo;simp at hbo
  . exact hbo
 obtain⟨t,z,rfl,hv⟩:=hx.shared hSS (fun b e=>by show (if b∈ob r then hp w b else S b)=_;rw[if_pos e]) hy;have est:z97 st r=(st.map (zv5 r (.v t z))).set r (.v t z):=by
  unfold z97;have:st.getD r .dead=x:=by simp[List.getD,hr]
  rw[this,hy]
 refine⟨S',t,z,hSS,rfl,hv,?_⟩;have other:∀ {i:Nat} {u:A},i≠r->(z97 st r)[i]?=some u->(st[i]?=some u/\r∉u.refs)\/((u=.dead\/(u=.v t z/\tv a i=tv a r))/\ob i=[]):=by
  intro i u hi hu;rw[est,List.getElem?_set_ne (Ne.symm hi),List.getElem?_map] at hu;cases hz:st[i]? with
  | none=>simp[hz] at hu
  | some q =>
    simp[hz] at hu;have hzr:=h.rel i q hz;cases q<;>simp only[zv5] at hu<;>(try (subst hu;exact .inl ⟨rfl,by simp[A.refs]⟩))
    case bor s =>
     by_cases hs:s=r
     . subst hs;simp at hu;subst hu;exact .inr ⟨.inr ⟨rfl,hzr.1⟩,hzr.2⟩
     . rw[show (s == r)=false by simpa using hs] at hu;simp at hu;subst hu;exact .inl ⟨rfl,by simpa[A.refs] using fun e=>hs e.symm⟩
    case adr s t' p =>
     by_cases hs:s=r
     . subst hs;simp at hu;subst hu;exact .inr ⟨.inl rfl,hzr.1⟩
     . rw[show (s == r)=false by simpa using hs] at hu;simp at hu;subst hu;exact .inl ⟨rfl,by simpa[A.refs] using fun e=>hs e.symm⟩
    case cel s t' p =>
     by_cases hs:s=r
     . subst hs;simp at hu;subst hu;exact .inr ⟨.inl rfl,hzr.1⟩
     . rw[show (s == r)=false by simpa using hs] at hu;simp at hu;subst hu;exact .inl ⟨rfl,by simpa[A.refs] using fun e=>hs e.symm⟩
    case pel s n p u' q =>
     by_cases hs:s=r
     . subst hs;simp at hu;subst hu;exact .inr ⟨.inl rfl,hzr.1⟩
     . rw[show (s == r)=false by simpa using hs] at hu;simp at hu;subst hu;exact .inl ⟨rfl,by simpa[A.refs] using fun e=>hs e.symm⟩
    case psl s n p u' q lo hi =>
     by_cases hs:s=r
     . subst hs;simp at hu;subst hu;exact .inr ⟨.inl rfl,hzr.1⟩
     . rw[show (s == r)=false by simpa using hs] at hu;simp at hu;subst hu;exact .inl ⟨rfl,by simpa[A.refs] using fun e=>hs e.symm⟩
    case clo f rs =>
     cases hs:rs.contains r with
     | true=>rw[hs] at hu;simp at hu;subst hu;exact .inr ⟨.inl rfl,hzr.1⟩
     | false=>rw[hs] at hu;simp at hu;subst hu;exact .inl ⟨rfl,by simpa[A.refs] using hs⟩
 constructor
 . refine h.defers.turn fun D h1 h2 h3 h4=>⟨h1,?_,fun i hi=>?_⟩
   . show (if D∈ob r then hp w D else S D)=none;rw[if_neg (h3 r)];exact h2
   . split at hi
     . cases hi
     . exact h3 i hi
 . rw[z3b];exact h.size
 . intro i u hu;by_cases hi:i=r
   . subst hi;rw[est] at hu;simp[hlt] at hu;subst hu;exact⟨hv,by simp⟩
   . simp only[if_neg hi];rcases other hi hu with⟨hu',_⟩|⟨rfl|⟨rfl,e⟩,hn⟩
     . exact (h.rel i u hu').mono hSS (fun _ _=>rfl) (fun _ _=>rfl) (fun _ _ _ _=>rfl)
     . exact hn
     . exact⟨by rw[e];exact hv,hn⟩
 . intro i u s hu hus;by_cases hi:i=r
   . subst hi;rw[est] at hu;simp[hlt] at hu;subst hu;simp[A.refs] at hus
   . rcases other hi hu with⟨hu',hne⟩|⟨rfl|⟨rfl,_⟩,_⟩
     . obtain⟨q,hz,hzo⟩:=h.refs i u s hu' hus;have hsr:s≠r:=fun e=>hne (by rw[<- e];exact hus)
       refine⟨zv5 r (.v t z) q,?_,?_⟩
       . rw[est,List.getElem?_set_ne (Ne.symm hsr),List.getElem?_map,hz];rfl
       . cases q<;>simp[A.own] at hzo<;>rfl
     . simp[A.refs] at hus
     . simp[A.refs] at hus
 . intro i hi;rw[z3b] at hi;split
   . rfl
   . exact h.out i hi
 . intro i j b hi hj;split at hi<;>split at hj
   . omega
   . cases hi
   . cases hj
   . exact h.inj i j b hi hj
 . intro i;split
   . exact .nil
   . exact h.nd i
 . intro i b hi;split at hi
   . cases hi
   . rename_i hne;show (if b∈ob r then hp w b else S b)=none;rw[if_neg (fun e=>hne (h.inj i r b hi e))];exact h.hid i b hi
 . intro b o hbo;change (if b∈ob r then hp w b else S b)=some o at hbo;split at hbo
   . exact hbo
   . exact h.sub b o hbo
 . exact h.mono.trans hSS
 . intro i b hi;split at hi
   . cases hi
   . exact h.fresh i b hi
 . intro b hb;change (if b∈ob r then hp w b else S b)≠none at hb;split at hb
   . rename_i e;exact .inr (h.fresh r b e)
   . exact h.newS b hb
 . exact h.lent
 . exact h.frame
end
end Go.Lift
