import Derived.Test.YtlhdohlpilippaaDoorLgA
set_option linter.all false
namespace Go.Lift
noncomputable section
inductive Step where
 | fld (i:Nat)|idx (i:Nat)
 deriving DecidableEq
def z16:T->List Step->Nat
 | .pair a b,.fld i::p=>match i with
   | 0=>z16 a p
   | i+1=>a.size+z16 b (.fld i::p)
 | .arr _ t,.idx i::p=>i*t.size+z16 t p
 | _,_=>0
abbrev Dat:=(t:T)×t.den
def foc:(t:T)->t.den->List Step->Dat
 | .pair a b,x,.fld i::p=>match i with
   | 0=>foc a x.1 p
   | i+1=>foc b x.2 (.fld i::p)
 | .arr _ t,xs,.idx i::p=>foc t (xs.getD i t.dflt) p
 | t,x,_=>⟨t,x⟩
def z1i (x y:Bool):Bool:=match y with
 | true=>x
 | false=>false
def z1d:T->List Step->Option T
 | .pair a b,.fld i::p=>match i with
   | 0=>z1d a p
   | i+1=>z1d b (.fld i::p)
 | .arr _ t,.idx _::p=>z1d t p
 | t,[]=>some t
 | _,_=>none
def inb:(t:T)->t.den->List Step->Bool
 | _,_,[]=>true
 | .pair a b,x,.fld i::p=>match i with
   | 0=>inb a x.1 p
   | i+1=>inb b x.2 (.fld i::p)
 | .arr _ t,xs,.idx i::p=>z1i (decide (i<xs.length)) (inb t (xs.getD i t.dflt) p)
 | _,_,_=>false
def cast (t' t:T)(y:t'.den):Option t.den:=if h:t'=t then some (h ▸ y) else none
def z7d:(t:T)->t.den->List Step->(t':T)->t'.den->Option t.den
 | t,_,[],t',y=>cast t' t y
 | .pair a b,x,.fld i::p,t',y=>match i with
   | 0=>match z7d a x.1 p t' y with
     | some z=>some (z,x.2)
     | none=>none
   | i+1=>match z7d b x.2 (.fld i::p) t' y with
     | some z=>some (x.1,z)
     | none=>none
 | .arr _ t,xs,.idx i::p,t',y=>match z7d t (xs.getD i t.dflt) p t' y with
   | some z=>some (xs.set i z)
   | none=>none
 | _,_,_,_,_=>none
theorem z12 {t' t:T}{y:t'.den}{x:t.den}(h:cast t' t y=some x):∃ e:t'=t,e ▸ y=x:=by
 unfold cast at h;split at h
 . rename_i e;exact⟨e,by simpa using h⟩
 . simp at h
abbrev NodT:T:=.pair (.int .i64) (.pair (.arr 4 (.int .u64)) (.pair (.sl .nod) (.pair (.int .i64) (.pair (.int .i64) .unit))))
def unN:Tree->NodT.den
 | .mk k st ks lo hi=>(k,st,ks,lo,hi,())
def foN:NodT.den->Tree
 | (k,st,ks,lo,hi,_)=>.mk k st ks lo hi
theorem foN_unN (x:Tree):foN (unN x)=x:=by cases x;rfl
theorem unN_foN (x:NodT.den):unN (foN x)=x:=rfl
theorem zhr {S:Hp}{k:IntKind}:∀ (xs:List Int) (cs:List Value),All (Rd S (.int k)) xs cs ↔ cs=xs.map (Value.int k)
 | [],cs=>by rw[All];exact Iff.rfl
 | x :: xs,cs=>by
   rw[All];constructor
   . rintro⟨c1,c2,rfl,h1,h2⟩;have h1:c1=[.int k x]:=h1;rw[(zhr xs c2).1 h2,h1];rfl
   . intro h;exact⟨[.int k x],xs.map (Value.int k),h,rfl,(zhr xs _).2 rfl⟩
theorem zw0 {S:Hp}(x:Tree)(cs:List Value):RdN S x cs ↔ Rd S NodT (unN x) cs:=by
 obtain⟨k,st,ks,lo,hi⟩:=x;rw[RdN];constructor
 . rintro⟨a,cap,e,hl,hc,hk⟩;refine⟨[.int .i64 k],_,by rw[e];rfl,rfl,st.map (Value.int .u64),_,rfl,⟨hl,(zhr _ _).2 rfl⟩,[.slice a ks.length cap],_,rfl,⟨a,cap,rfl,hc,?_⟩,[.int .i64 lo],_,rfl,rfl,[.int .i64 hi],[],rfl,rfl,rfl⟩;rcases hk with h|⟨b,off,c1,h1,h2,h3⟩
   . exact .inl h
   . exact .inr ⟨b,off,c1,h1,h2,(zke S ks c1).1 h3⟩
 . rintro⟨c1,c2,e,h1,c3,c4,e2,⟨hl,h3⟩,c5,c6,e3,⟨a,cap,h5,hc,hk⟩,c7,c8,e4,h7,c9,c10,e5,h9,h10⟩;have h1:c1=[.int .i64 k]:=h1;have h7:c7=[.int .i64 lo]:=h7;have h9:c9=[.int .i64 hi]:=h9;have h10:c10=[]:=h10;have h5:c5=[.slice a ks.length cap]:=h5;have h3:=(zhr _ _).1 h3;refine⟨a,cap,?_,hl,hc,?_⟩
   . rw[e,h1,e2,h3,e3,h5,e4,h7,e5,h9,h10];simp[unN]
   . rcases hk with h|⟨b,off,c1,h1,h2,h3⟩
     . exact .inl h
     . exact .inr ⟨b,off,c1,h1,h2,(zke S ks c1).2 h3⟩
def unT:T->T
 | .nod=>NodT
 | .int k=>.int k | .bool=>.bool | .str=>.str | .opq=>.opq | .unit=>.unit | .pair a b=>.pair a b | .arr n t=>.arr n t | .sl t=>.sl t | .ptr t=>.ptr t
 | .own t=>.own t | .any=>.any | .self i=>.self i | .byt i=>.byt i | .fn f t=>.fn f t | .mp k v=>.mp k v | .nb t=>.nb t | .ifc i t=>.ifc i t
def unD:(t:T)->t.den->(unT t).den
 | .nod,x=>unN x
 | .int _,x=>x | .bool,x=>x | .str,x=>x | .opq,x=>x | .unit,x=>x | .pair _ _,x=>x | .arr _ _,x=>x | .sl _,x=>x | .ptr _,x=>x
 | .own _,x=>x | .any,x=>x | .self _,x=>x | .byt _,x=>x | .fn _ _,x=>x | .mp _ _,x=>x | .nb _,x=>x | .ifc _ _,x=>x
theorem zeg (t:T):(unT t).size=t.size:=by cases t<;>rfl
theorem unT_agg (t:T):(unT t).isAgg=t.isAgg:=by cases t<;>rfl
theorem Rd.un {S:Hp}{t:T}{x:t.den}{cs:List Value}(h:Rd S t x cs):Rd S (unT t) (unD t x) cs:=by
 cases t<;>first|exact h|exact (zw0 _ _).1 h
def unRw:(t:T)->List t.den->List (unT t).den
 | .nod,x=>x.map unN
 | .int _,x=>x | .bool,x=>x | .str,x=>x | .opq,x=>x | .unit,x=>x | .pair _ _,x=>x | .arr _ _,x=>x | .sl _,x=>x | .ptr _,x=>x
 | .own _,x=>x | .any,x=>x | .self _,x=>x | .byt _,x=>x | .fn _ _,x=>x | .mp _ _,x=>x | .nb _,x=>x | .ifc _ _,x=>x
theorem z8z (t:T)(xs:List t.den):(unRw t xs).length=xs.length:=by cases t<;>first|rfl|exact List.length_map _
theorem All.map {α β:Type}{R:α->List Value->Prop}{R':β->List Value->Prop}{f:α->β}(h:∀ x cs,R x cs->R' (f x) cs):∀ (xs:List α) (cs:List Value),All R xs cs->All R' (xs.map f) cs
 | [],_,e=>e
 | x::xs,_,⟨c1,c2,e,h1,h2⟩=>⟨c1,c2,e,h x c1 h1,All.map h xs c2 h2⟩
theorem All.unRw {S:Hp}{t:T}{xs:List t.den}{cs:List Value}(h:All (Rd S t) xs cs):All (Rd S (unT t)) (unRw t xs) cs:=by
 cases t<;>first|exact h|exact All.map (fun x cs hx=>(zw0 x cs).1 hx) _ _ h
theorem VR.unRw {S:Hp}{t:T}{xs:List t.den}{v:Value}(h:VR S (.sl t) xs v):VR S (.sl (unT t)) (unRw t xs) v:=by
 obtain⟨a,cap,e1,e2,e3⟩:Rd S (.sl t) xs [v]:=h;refine⟨a,cap,by rw[z8z];exact e1,by rw[z8z];exact e2,?_⟩;rcases e3 with h|⟨b,off,c1,h1,h2,h3⟩
 . left
   have:=z8z t xs;rw[h] at this;exact List.length_eq_zero_iff.1 (by rw[h];exact this)
 . exact .inr ⟨b,off,c1,h1,h2,All.unRw h3⟩
def foL (u:T)(h:u=NodT)(xs:List u.den):List Tree:=List.map foN (h ▸ xs:List NodT.den)
def nrmL (u:T)(xs:List u.den):Dat:=if h:u=NodT then ⟨.sl .nod,foL u h xs⟩ else ⟨.sl u,xs⟩
def nrm:(t:T)->t.den->Dat
 | .sl u,xs=>nrmL u xs
 | .nod,x=>⟨.nod,x⟩
 | .int k,x=>⟨.int k,x⟩ | .bool,x=>⟨.bool,x⟩ | .str,x=>⟨.str,x⟩ | .opq,x=>⟨.opq,x⟩ | .unit,x=>⟨.unit,x⟩ | .pair a b,x=>⟨.pair a b,x⟩ | .arr n t,x=>⟨.arr n t,x⟩
 | .ptr t,x=>⟨.ptr t,x⟩ | .own t,x=>⟨.own t,x⟩ | .any,x=>⟨.any,x⟩ | .self i,x=>⟨.self i,x⟩ | .byt i,x=>⟨.byt i,x⟩ | .fn f t,x=>⟨.fn f t,x⟩
 | .mp a b,x=>⟨.mp a b,x⟩ | .nb t,x=>⟨.nb t,x⟩ | .ifc i t,x=>⟨.ifc i t,x⟩
theorem VR.nrmL {S:Hp}{u:T}{xs:List u.den}{v:Value}(h:VR S (.sl u) xs v):VR S (nrmL u xs).1 (nrmL u xs).2 v:=by
 by_cases e:u=NodT
 . subst e;have en:Go.Lift.nrmL NodT xs=⟨.sl .nod,xs.map foN⟩:=by unfold Go.Lift.nrmL;rw[dif_pos rfl];rfl
   rw[en];obtain⟨a,cap,e1,e2,e3⟩:Rd S (.sl NodT) xs [v]:=h;refine⟨a,cap,?_,?_,?_⟩
   . rw[e1];simp
   . simpa using e2
   . rcases e3 with rfl|⟨b,off,c1,h1,h2,h3⟩
     . exact .inl rfl
     . exact .inr ⟨b,off,c1,h1,h2,All.map (fun x cs hx=>(zw0 (foN x) cs).2 hx) _ _ h3⟩
 . have en:Go.Lift.nrmL u xs=⟨.sl u,xs⟩:=by unfold Go.Lift.nrmL;rw[dif_neg e]
   rw[en];exact h
theorem VR.nrm {S:Hp}{t:T}{x:t.den}{v:Value}(h:VR S t x v):VR S (nrm t x).1 (nrm t x).2 v:=by
 cases t<;>first|exact h|exact VR.nrmL h
theorem z7 {x y:Bool}(h:z1i x y=true):x=true/\y=true:=by
 cases y<;>simp_all [z1i]
theorem z13z {S:Hp}:∀ (t:T) (x:t.den) (p:List Step) (cs:List Value),Rd S t x cs->inb t x p=true →
 ∃ c0 c1 c2,cs=c0++(c1++c2)/\c0.length=z16 t p/\Rd S (foc t x p).1 (foc t x p).2 c1 ∧
   ∀ (t':T) (y:t'.den) (d:List Value) (x':t.den),z7d t x p t' y=some x'->Rd S t' y d->t'=(foc t x p).1/\Rd S t x' (c0++(d++c2)):=by
 intro t;have base:∀ (t:T) (x:t.den) (cs:List Value),Rd S t x cs->z16 t []=0->foc t x []=⟨t,x⟩ →
  ∃ c0 c1 c2,cs=c0++(c1++c2)/\c0.length=z16 t []/\Rd S (foc t x []).1 (foc t x []).2 c1 ∧
    ∀ (t':T) (y:t'.den) (d:List Value) (x':t.den),z7d t x [] t' y=some x'->Rd S t' y d->t'=(foc t x []).1/\Rd S t x' (c0++(d++c2)):=by
  intro t x cs h h0 hf;refine⟨[],cs,[],by simp,by rw[h0];rfl,by rw[hf];exact h,?_⟩;intro t' y d x' hs hr;have hs':cast t' t y=some x':=by cases t<;>simpa[z7d] using hs
  obtain⟨e,e'⟩:=z12 hs';subst e;subst e';exact⟨by rw[hf],by simpa using hr⟩
 induction t with
 | int k=>intro x p cs h hi;cases p with|nil=>exact base _ x cs h rfl rfl|cons s p=>cases s<;>simp[inb] at hi
 | bool=>intro x p cs h hi;cases p with|nil=>exact base _ x cs h rfl rfl|cons s p=>cases s<;>simp[inb] at hi
 | str=>intro x p cs h hi;cases p with|nil=>exact base _ x cs h rfl rfl|cons s p=>cases s<;>simp[inb] at hi
 | opq=>intro x p cs h hi;cases p with|nil=>exact base _ x cs h rfl rfl|cons s p=>cases s<;>simp[inb] at hi
 | unit=>intro x p cs h hi;cases p with|nil=>exact base _ x cs h rfl rfl|cons s p=>cases s<;>simp[inb] at hi
 | sl t _=>intro x p cs h hi;cases p with|nil=>exact base _ x cs h rfl rfl|cons s p=>cases s<;>simp[inb] at hi
 | ptr t _=>intro x p cs h hi;cases p with|nil=>exact base _ x cs h rfl rfl|cons s p=>cases s<;>simp[inb] at hi
 | own t _=>intro x p cs h hi;exact h.elim
 | self ty=>intro x p cs h hi;exact h.elim
 | byt ty=>intro x p cs h hi;cases p with|nil=>exact base _ x cs h rfl rfl|cons s p=>cases s<;>simp[inb] at hi
 | nod=>intro x p cs h hi;cases p with|nil=>exact base _ x cs h rfl rfl|cons s p=>cases s<;>simp[inb] at hi
 | any=>intro x p cs h hi;cases p with|nil=>exact base _ x cs h rfl rfl|cons s p=>cases s<;>simp[inb] at hi
 | fn f t _=>intro x p cs h hi;cases p with|nil=>exact base _ x cs h rfl rfl|cons s p=>cases s<;>simp[inb] at hi
 | mp k v _ _=>intro x p cs h hi;exact h.elim
 | nb t _=>intro x p cs h hi;exact h.elim
 | ifc ty t _=>intro x p cs h hi;cases p with|nil=>exact base _ x cs h rfl rfl|cons s p=>cases s<;>simp[inb] at hi
 | pair a b iha ihb =>
   intro x p cs h hi;cases p with
   | nil=>exact base _ x cs h rfl rfl
   | cons s p =>
     cases s with
     | idx i=>simp[inb] at hi
     | fld i =>
       obtain⟨d1,d2,e,h1,h2⟩:=h;cases i with
       | zero =>
         simp only[inb] at hi;obtain⟨c0,c1,c2,e1,hl,hr,hs⟩:=iha x.1 p d1 h1 hi;refine⟨c0,c1,c2++d2,by rw[e,e1];simp,by simpa[z16] using hl,by simpa[foc] using hr,?_⟩;intro t' y d x' hset hy;simp only[z7d] at hset;split at hset
         . rename_i z hz;obtain⟨et,hz'⟩:=hs t' y d z hz hy;refine⟨by simpa[foc] using et,?_⟩;simp at hset;subst hset;exact⟨c0++(d++c2),d2,by simp,hz',h2⟩
         . simp at hset
       | succ i =>
         simp only[inb] at hi;obtain⟨c0,c1,c2,e1,hl,hr,hs⟩:=ihb x.2 (.fld i::p) d2 h2 hi;refine⟨d1++c0,c1,c2,by rw[e,e1];simp,by simp[z16,hl,Rd.length a _ _ h1],by simpa[foc] using hr,?_⟩;intro t' y d x' hset hy;simp only[z7d] at hset;split at hset
         . rename_i z hz;obtain⟨et,hz'⟩:=hs t' y d z hz hy;refine⟨by simpa[foc] using et,?_⟩;simp at hset;subst hset;exact⟨d1,c0++(d++c2),by simp,h1,hz'⟩
         . simp at hset
 | arr n t ih =>
   intro xs p cs h hi;cases p with
   | nil=>exact base _ xs cs h rfl rfl
   | cons s p =>
     cases s with
     | fld i=>simp[inb] at hi
     | idx i =>
       simp only[inb] at hi;obtain⟨hlt,hin⟩:=z7 hi;have hlt:i<xs.length:=by simpa using hlt
       obtain⟨hn,hall⟩:=h;obtain⟨b0,b1,b2,eb,hb0,hb1,ha0,ha2⟩:=All.at (Rd.length t) hall hlt t.dflt;obtain⟨c0,c1,c2,e1,hl,hr,hs⟩:=ih (xs.getD i t.dflt) p b1 hb1 hin;refine⟨b0++c0,c1,c2++b2,by rw[eb,e1];simp,by simp[z16,hl,hb0],by simpa[foc] using hr,?_⟩;intro t' y d x' hset hy;simp only[z7d] at hset;split at hset
       . rename_i z hz;obtain⟨et,hz'⟩:=hs t' y d z hz hy;refine⟨by simpa[foc] using et,?_⟩;simp at hset;subst hset;refine⟨by simpa using hn,?_⟩;have:=All.set hlt ha0 hz' ha2;simpa using this
       . simp at hset
theorem zlk (n m:Nat)(t:T)(p:List Step):z16 (.arr n t) p=z16 (.arr m t) p:=by
 cases p with
 | nil=>rfl
 | cons s p=>cases s<;>rfl
theorem zzw (n m:Nat)(t:T)(xs:List t.den)(p:List Step):inb (.arr n t) xs p=inb (.arr m t) xs p:=by
 cases p with
 | nil=>rfl
 | cons s p=>cases s<;>rfl
end
end Go.Lift
