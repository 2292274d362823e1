import Derived.Calls
import Derived.Laws.Sem
set_option linter.all false
namespace Go.Lift
noncomputable section
inductive Tree where
 | mk (k:Int) (st:List Int) (ks:List Tree) (lo hi:Int)
inductive T where
 | int (k:IntKind)|bool|str|opq|unit
 | pair (a b:T)|arr (n:Nat) (t:T)|sl (t:T)|ptr (t:T)
 | own (t:T)|any|self (ty:Nat)|byt (ty:Nat)|fn (f:Nat) (t:T)
 | mp (k v:T)|nb (t:T)|ifc (ty:Nat) (t:T)|nod
 deriving DecidableEq
@[reducible] def T.den:T->Type
 | .int _=>Int
 | .bool=>Bool
 | .str=>List UInt8
 | .opq=>Value
 | .unit=>Unit
 | .pair a b=>a.den×b.den
 | .arr _ t=>List t.den
 | .sl t=>List t.den
 | .ptr t=>t.den
 | .own t=>List t.den
 | .any=>Unit
 | .self _=>Unit
 | .byt _=>Int
 | .fn _ t=>t.den
 | .mp k v=>Option (List (k.den×v.den))
 | .nb t=>Option t.den
 | .ifc _ t=>Option t.den
 | .nod=>Tree
def T.size:T->Nat
 | .unit=>0
 | .pair a b=>a.size+b.size
 | .arr n t=>n*t.size
 | .nod=>8
 | _=>1
def T.isAgg:T->Bool
 | .unit | .pair .. | .arr .. | .nod=>true
 | _=>false
def T.dflt:(t:T)->t.den
 | .int _=>(0:Int)
 | .bool=>false
 | .str=>([]:List UInt8)
 | .opq=>Value.nilIface
 | .unit=>()
 | .pair a b=>(a.dflt,b.dflt)
 | .arr _ _=>[]
 | .sl _=>[]
 | .ptr t=>t.dflt
 | .own _=>[]
 | .any=>()
 | .self _=>()
 | .byt _=>(0:Int)
 | .fn _ t=>t.dflt
 | .mp _ _=>none
 | .nb _=>none
 | .ifc _ _=>none
 | .nod=>.mk 0 [] [] 0 0
abbrev Hp:=Nat->Option Obj
def hp (w:World):Hp:=fun b=>w.heap[b]?
def All {α:Type}(R:α->List Value->Prop):List α->List Value->Prop
 | [],cs=>cs=[]
 | x::xs,cs=>∃ c1 c2,cs=c1++c2/\R x c1/\All R xs c2
def Lies (S:Hp)(b off:Nat)(c1:List Value):Prop :=
 ∃ all E fr c0 c2,S b=some (.cells all E fr)/\all.toList=c0++(c1++c2)/\c0.length=off
mutual
def RdN (S:Hp):Tree->List Value->Prop
 | .mk k st ks lo hi,cs=>∃ a cap,cs=.int .i64 k::(st.map (Value.int .u64)++[.slice a ks.length cap,.int .i64 lo,.int .i64 hi])/\st.length=4/\ks.length<=cap ∧
  (ks=[]\/∃ b off c1,a=some ⟨b,off,none⟩/\Lies S b off c1/\RdNs S ks c1)
def RdNs (S:Hp):List Tree->List Value->Prop
 | [],cs=>cs=[]
 | x::xs,cs=>∃ c1 c2,cs=c1++c2/\RdN S x c1/\RdNs S xs c2
end
theorem zke (S:Hp):∀ (xs:List Tree) (cs:List Value),RdNs S xs cs ↔ All (RdN S) xs cs
 | [],cs=>by rw[RdNs,All]
 | x::xs,cs=>by
   rw[RdNs,All];constructor
   . rintro⟨c1,c2,e,h1,h2⟩;exact⟨c1,c2,e,h1,(zke S xs c2).1 h2⟩
   . rintro⟨c1,c2,e,h1,h2⟩;exact⟨c1,c2,e,h1,(zke S xs c2).2 h2⟩
def Rd (S:Hp):(t:T)->t.den->List Value->Prop
 | .int k,x,cs=>cs=[.int k x]
 | .bool,x,cs=>cs=[.bool x]
 | .str,x,cs=>cs=[.string ⟨⟨x⟩⟩]
 | .opq,x,cs=>cs=[x]/\x.oneCell'=true
 | .unit,_,cs=>cs=[]
 | .pair a b,x,cs=>∃ c1 c2,cs=c1++c2/\Rd S a x.1 c1/\Rd S b x.2 c2
 | .arr n t,xs,cs=>xs.length=n/\All (Rd S t) xs cs
 | .sl t,xs,cs=>∃ a cap,cs=[.slice a xs.length cap]/\xs.length<=cap ∧
  (xs=[]\/∃ b off c1,a=some ⟨b,off,none⟩/\Lies S b off c1/\All (Rd S t) xs c1)
 | .ptr t,x,cs=>∃ b off c1,cs=[.pointer (some ⟨b,off,none⟩)]/\Lies S b off c1/\Rd S t x c1
 | .own _,_,_=>False
 | .self _,_,_=>False
 | .byt _,x,cs=>cs=[.int .u8 x]
 | .any,_,cs=>∃ v,cs=[v]/\v.oneCell'=true
 | .fn f t,x,cs=>∃ l:Array Value,cs=[.func (.func f) #[] l]/\Rd S t x l.toList
 | .mp _ _,_,_=>False
 | .nb _,_,_=>False
 | .ifc ty t,x,cs=>(x=none/\cs=[.nilIface])\/∃ y v,x=some y/\cs=[.iface ty v]/\((t.isAgg=true/\∃ a:Array Value,v=.agg a/\Rd S t y a.toList)\/(t.isAgg=false/\Rd S t y [v]))
 | .nod,x,cs=>RdN S x cs
def Sub (S S':Hp):Prop:=∀ b o,S b=some o->S' b=some o
theorem Sub.refl (S:Hp):Sub S S:=fun _ _ h=>h
theorem Sub.trans {S S' S'':Hp}(h:Sub S S')(h':Sub S' S''):Sub S S'':=fun b o e=>h' b o (h b o e)
theorem All.mono {α:Type}{R R':α->List Value->Prop}(h:∀ x cs,R x cs->R' x cs):∀ (xs:List α) (cs:List Value),All R xs cs->All R' xs cs
 | [],_,e=>e
 | x::xs,_,⟨c1,c2,e,h1,h2⟩=>⟨c1,c2,e,h x c1 h1,All.mono h xs c2 h2⟩
theorem Lies.mono {S S':Hp}(h:Sub S S'){b off:Nat}{c1:List Value}:Lies S b off c1->Lies S' b off c1
 | ⟨all,E,fr,c0,c2,e,e1,e2⟩=>⟨all,E,fr,c0,c2,h _ _ e,e1,e2⟩
mutual
theorem RdN.mono {S S':Hp}(h:Sub S S'):∀ (x:Tree) (cs:List Value),RdN S x cs->RdN S' x cs
 | .mk k st ks lo hi,cs,hr=>by
   rw[RdN] at hr ⊢;obtain⟨a,cap,e,hl,hc,h1⟩:=hr;exact⟨a,cap,e,hl,hc,h1.imp id fun ⟨b,off,c1,ea,hl,ha⟩=>⟨b,off,c1,ea,hl.mono h,RdNs.mono h ks c1 ha⟩⟩
theorem RdNs.mono {S S':Hp}(h:Sub S S'):∀ (xs:List Tree) (cs:List Value),RdNs S xs cs->RdNs S' xs cs
 | [],cs,hr=>by rw[RdNs] at hr ⊢;exact hr
 | x::xs,cs,hr=>by
   rw[RdNs] at hr ⊢;obtain⟨c1,c2,e,h1,h2⟩:=hr;exact⟨c1,c2,e,RdN.mono h x c1 h1,RdNs.mono h xs c2 h2⟩
end
theorem RdN.length {S:Hp}:∀ (x:Tree) (cs:List Value),RdN S x cs->cs.length=8
 | .mk k st ks lo hi,cs,hr=>by
   rw[RdN] at hr;obtain⟨a,cap,e,hl,_⟩:=hr;simp[e,hl]
theorem Rd.mono {S S':Hp}(h:Sub S S'):∀ (t:T) (x:t.den) (cs:List Value),Rd S t x cs->Rd S' t x cs
 | .int _,_,_,e=>e
 | .bool,_,_,e=>e
 | .str,_,_,e=>e
 | .opq,_,_,e=>e
 | .unit,_,_,e=>e
 | .pair a b,_,_,⟨c1,c2,e,h1,h2⟩=>⟨c1,c2,e,Rd.mono h a _ _ h1,Rd.mono h b _ _ h2⟩
 | .arr _ t,_,_,⟨e,h1⟩=>⟨e,All.mono (Rd.mono h t) _ _ h1⟩
 | .sl t,_,_,⟨a,cap,e,hc,h1⟩=>⟨a,cap,e,hc,h1.imp id fun ⟨b,off,c1,ea,hl,ha⟩=>⟨b,off,c1,ea,hl.mono h,All.mono (Rd.mono h t) _ _ ha⟩⟩
 | .ptr t,_,_,⟨b,off,c1,e,hl,h1⟩=>⟨b,off,c1,e,hl.mono h,Rd.mono h t _ _ h1⟩
 | .own _,_,_,e=>e
 | .self _,_,_,e=>e
 | .byt _,_,_,e=>e
 | .any,_,_,e=>e
 | .fn f t,_,_,⟨l,e,h1⟩=>⟨l,e,Rd.mono h t _ _ h1⟩
 | .mp _ _,_,_,e=>e
 | .nb _,_,_,e=>e
 | .ifc ty t,_,_,e=>e.imp id fun ⟨y,v,e1,e2,e3⟩=>⟨y,v,e1,e2,e3.imp (fun ⟨e4,a,e5,e6⟩=>⟨e4,a,e5,Rd.mono h t _ _ e6⟩) fun ⟨e4,e5⟩=>⟨e4,Rd.mono h t _ _ e5⟩⟩
 | .nod,x,cs,e=>RdN.mono h x cs e
theorem All.length {α:Type}{R:α->List Value->Prop}{n:Nat}(h:∀ x cs,R x cs->cs.length=n):∀ (xs:List α) (cs:List Value),All R xs cs->cs.length=xs.length*n
 | [],_,e=>by simp[All] at e;simp[e]
 | x::xs,_,⟨c1,c2,e,h1,h2⟩=>by
   rw[e,List.length_append,h x c1 h1,All.length h xs c2 h2,List.length_cons,Nat.succ_mul,Nat.add_comm]
theorem Rd.length {S:Hp}:∀ (t:T) (x:t.den) (cs:List Value),Rd S t x cs->cs.length=t.size
 | .int _,_,_,e=>by simp[Rd] at e;simp[e,T.size]
 | .bool,_,_,e=>by simp[Rd] at e;simp[e,T.size]
 | .str,_,_,e=>by simp[Rd] at e;simp[e,T.size]
 | .opq,_,_,e=>by simp[Rd] at e;simp[e.1,T.size]
 | .unit,_,_,e=>by simp[Rd] at e;simp[e,T.size]
 | .pair a b,_,_,⟨c1,c2,e,h1,h2⟩=>by rw[e,List.length_append,Rd.length a _ _ h1,Rd.length b _ _ h2,T.size]
 | .arr n t,xs,_,⟨e,h1⟩=>by rw[All.length (Rd.length t) _ _ h1,T.size,<- e]
 | .sl t,_,_,⟨a,cap,e,_⟩=>by simp[e,T.size]
 | .ptr t,_,_,⟨b,off,c1,e,_⟩=>by simp[e,T.size]
 | .own _,_,_,e=>e.elim
 | .self _,_,_,e=>e.elim
 | .byt _,_,_,e=>by simp[Rd] at e;simp[e,T.size]
 | .any,_,_,⟨v,e,_⟩=>by simp[e,T.size]
 | .fn _ _,_,_,⟨l,e,_⟩=>by simp[e,T.size]
 | .mp _ _,_,_,e=>e.elim
 | .nb _,_,_,e=>e.elim
 | .ifc _ _,_,_,e=>by rcases e with⟨_,e⟩|⟨_,_,_,e,_⟩<;>simp[e,T.size]
 | .nod,x,cs,e=>RdN.length x cs e
theorem All.append {α:Type}{R:α->List Value->Prop}:∀ {xs ys:List α} {cs ds:List Value},All R xs cs->All R ys ds->All R (xs++ys) (cs++ds)
 | [],_,_,_,e,h=>by simp[All] at e;simpa[e] using h
 | x::xs,_,_,_,⟨c1,c2,e,h1,h2⟩,h=>⟨c1,c2++_,by rw[e,List.append_assoc],h1,All.append h2 h⟩
theorem All.split {α:Type}{R:α->List Value->Prop}:∀ {xs ys:List α} {cs:List Value},All R (xs++ys) cs->∃ c1 c2,cs=c1++c2/\All R xs c1/\All R ys c2
 | [],_,cs,h=>⟨[],cs,rfl,rfl,h⟩
 | x::xs,_,_,⟨c1,c2,e,h1,h2⟩=>by
   obtain⟨d1,d2,e2,h3,h4⟩:=All.split h2;exact⟨c1++d1,d2,by rw[e,e2,List.append_assoc],⟨c1,d1,rfl,h1,h3⟩,h4⟩
theorem All.one {α:Type}{R:α->List Value->Prop}{x:α}{cs:List Value}(h:R x cs):All R [x] cs:=⟨cs,[],by simp,h,rfl⟩
theorem All.one_inv {α:Type}{R:α->List Value->Prop}{x:α}{cs:List Value}:All R [x] cs->R x cs
 | ⟨c1,c2,e,h1,h2⟩=>by simp only[All] at h2;simp[e,h2];exact h1
theorem All.at {α:Type}{R:α->List Value->Prop}{n:Nat}(hn:∀ x cs,R x cs->cs.length=n){xs:List α}{cs:List Value}(h:All R xs cs){i:Nat}(hi:i<xs.length)(d:α) :
 ∃ c0 c1 c2,cs=c0++(c1++c2)/\c0.length=i*n/\R (xs.getD i d) c1/\All R (xs.take i) c0/\All R (xs.drop (i+1)) c2:=by
 have e:xs=xs.take i++([xs.getD i d]++xs.drop (i+1)):=by
  rw[List.singleton_append];have:xs.getD i d=xs[i]:=by simp[List.getD,hi]
  rw[this,List.getElem_cons_drop,List.take_append_drop]
 rw[e] at h;obtain⟨c0,c3,e0,h0,h3⟩:=All.split h;obtain⟨c1,c2,e1,h1,h2⟩:=All.split h3;refine⟨c0,c1,c2,by rw[e0,e1],?_,h1.one_inv,h0,h2⟩;rw[All.length hn _ _ h0,List.length_take,Nat.min_eq_left (Nat.le_of_lt hi)]
theorem All.set {α:Type}{R:α->List Value->Prop}{xs:List α}{c0 c1 c2:List Value}{i:Nat}{y:α}(hi:i<xs.length)
 (h0:All R (xs.take i) c0) (h1:R y c1) (h2:All R (xs.drop (i+1)) c2):All R (xs.set i y) (c0++(c1++c2)):=by
 have e:xs.set i y=xs.take i++([y]++xs.drop (i+1)):=by
  rw[List.set_eq_take_append_cons_drop,if_pos hi];rfl
 rw[e];exact All.append h0 (All.append (All.one h1) h2)
theorem All.replicate {α:Type}{R:α->List Value->Prop}{x:α}{cs:List Value}(h:R x cs):∀ n,All R (List.replicate n x) (List.replicate n cs).flatten
 | 0=>rfl
 | n+1=>⟨cs,(List.replicate n cs).flatten,by simp[List.replicate_succ],h,All.replicate h n⟩
def VR (S:Hp)(t:T)(x:t.den)(v:Value):Prop :=
 if t.isAgg then ∃ cs,v=.agg cs/\Rd S t x cs.toList else Rd S t x [v]
theorem VR.mono {S S':Hp}(h:Sub S S'){t:T}{x:t.den}{v:Value}:VR S t x v->VR S' t x v:=by
 unfold VR;split
 . rintro⟨cs,e,hr⟩;exact⟨cs,e,hr.mono h⟩
 . exact Rd.mono h t x _
theorem Rd.oneCell {S:Hp}{t:T}{x:t.den}{v:Value}(ht:t.isAgg=false)(h:Rd S t x [v]):v.oneCell'=true:=by
 cases t<;>simp[T.isAgg] at ht<;>simp[Rd] at h
 case int=>simp[h,Value.oneCell']
 case bool=>simp[h,Value.oneCell']
 case str=>simp[h,Value.oneCell']
 case opq=>rw[h.1];exact h.2
 case sl=>obtain⟨a,c,rfl,_⟩:=h;rfl
 case ptr=>obtain⟨b,off,rfl,_⟩:=h;rfl
 case any=>exact h
 case byt=>simp[h,Value.oneCell']
 case fn=>obtain⟨l,rfl,_⟩:=h;rfl
 case ifc=>rcases h with⟨_,rfl⟩|⟨_,_,_,rfl,_⟩<;>rfl
theorem z63 {v:Value}(h:v.oneCell'=true):v.cells=#[v]:=by
 cases v<;>simp[Value.oneCell'] at h<;>rfl
theorem VR.cells {S:Hp}{t:T}{x:t.den}{v:Value}(h:VR S t x v):Rd S t x v.cells.toList:=by
 unfold VR at h;split at h
 . obtain⟨cs,rfl,hr⟩:=h;exact hr
 . rename_i ht;rw[z63 (Rd.oneCell (by simpa using ht) h)];exact h
theorem VR.of_agg {S:Hp}{t:T}{x:t.den}{cs:Array Value}(ht:t.isAgg=true)(h:Rd S t x cs.toList):VR S t x (.agg cs):=by
 unfold VR;rw[if_pos ht];exact⟨cs,rfl,h⟩
theorem VR.of_one {S:Hp}{t:T}{x:t.den}{v:Value}(ht:t.isAgg=false)(h:Rd S t x [v]):VR S t x v:=by
 unfold VR;rw[if_neg (by simp[ht])];exact h
theorem VR.int {S:Hp}{k:IntKind}{n:Int}:VR S (.int k) n (.int k n):=VR.of_one rfl rfl
theorem VR.bool {S:Hp}{b:Bool}:VR S .bool b (.bool b):=VR.of_one rfl rfl
theorem VR.str {S:Hp}{s:List UInt8}:VR S .str s (.string ⟨⟨s⟩⟩):=VR.of_one rfl rfl
theorem VR.int_inv {S:Hp}{k:IntKind}{n:Int}{v:Value}(h:VR S (.int k) n v):v=.int k n:=by simpa[VR,T.isAgg,Rd] using h
theorem VR.bool_inv {S:Hp}{n:Bool}{v:Value}(h:VR S .bool n v):v=.bool n:=by simpa[VR,T.isAgg,Rd] using h
theorem VR.str_inv {S:Hp}{n:List UInt8}{v:Value}(h:VR S .str n v):v=.string ⟨⟨n⟩⟩:=by simpa[VR,T.isAgg,Rd] using h
theorem VR.opq_inv {S:Hp}{n v:Value}(h:VR S .opq n v):v=n:=by have:=h;simp[VR,T.isAgg,Rd] at this;exact this.1
end
end Go.Lift
