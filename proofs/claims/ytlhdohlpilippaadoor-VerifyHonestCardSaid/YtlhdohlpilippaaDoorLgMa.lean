import Derived.Test.YtlhdohlpilippaaDoorLgN
import Derived.MapKept
set_option linter.unusedSimpArgs false
set_option linter.unusedVariables false
set_option linter.all false
namespace Go.Lift
noncomputable section
section
variable {P:Program} {E:Env} {c:Ctx} {st st':List A} {fp fp':FP} {a:Act} {w w':World} {S:Hp} {ob:Nat->List Nat} {o:Oper}
theorem z6q {S:Hp}:∀ (t:T) (x:t.den) (cs:List Value),z8u t=true->Rd S t x cs->cs=zc t x
 | .int _,_,_,_,e=>e
 | .bool,_,_,_,e=>e
 | .str,_,_,_,e=>e
 | .unit,_,_,_,e=>e
 | .pair a b,x,_,h,⟨c1,c2,e,h1,h2⟩=>by
   obtain⟨k1,k2⟩:=z7 h;rw[e,z6q a _ _ k1 h1,z6q b _ _ k2 h2];rfl
 | .arr n t,xs,cs,h,⟨_,hA⟩=>by
   have key:∀ (xs:List t.den) (cs:List Value),All (Rd S t) xs cs->cs=(xs.map (zc t)).flatten:=by
    intro xs
    induction xs with
    | nil=>intro cs h;exact h
    | cons x xs ih =>
      rintro cs ⟨c1,c2,e,h1,h2⟩;rw[e,z6q t _ _ h h1,ih _ h2];simp
   exact key xs cs hA
 | .opq,_,_,h,_=>by simp[z8u] at h
 | .sl _,_,_,h,_=>by simp[z8u] at h
 | .ptr _,_,_,h,_=>by simp[z8u] at h
 | .own _,_,_,h,_=>by simp[z8u] at h
 | .any,_,_,h,_=>by simp[z8u] at h
 | .self _,_,_,h,_=>by simp[z8u] at h
 | .byt _,_,_,h,_=>by simp[z8u] at h
 | .fn _ _,_,_,h,_=>by simp[z8u] at h
 | .mp _ _,_,_,h,_=>by simp[z8u] at h
 | .nb _,_,_,h,_=>by simp[z8u] at h
 | .ifc _ _,_,_,h,_=>by simp[z8u] at h
 | .nod,_,_,h,_=>by simp[z8u] at h
theorem z12p {S S':Hp}{t:T}{x:t.den}{v v':Value}(h:z8u t=true)(hv:VR S t x v)(hv':VR S' t x v'):v=v':=by
 unfold VR at hv hv';split at hv
 . rename_i hg;rw[if_pos hg] at hv';obtain⟨cs,rfl,hr⟩:=hv;obtain⟨ds,rfl,hr'⟩:=hv';congr 1;apply Array.toList_inj.1;rw[z6q t x _ h hr,z6q t x _ h hr']
 . rename_i hg;rw[if_neg hg] at hv';have h1:=z6q t x _ h hv;have h2:=z6q t x _ h hv';rw[<- h2] at h1;simpa using h1
theorem z105 {α:Type}{f:α->α->Bool}(h:∀ x y,f x y=true->x=y):∀ (xs ys:List α),zvr f xs ys=true->xs=ys
 | [],[],_=>rfl
 | x :: xs,y::ys,e=>by
   simp only[zvr] at e;cases hf:f x y with
   | false=>rw[hf] at e;simp at e
   | true =>
     rw[hf] at e;rw[h x y hf,z105 h xs ys (by simpa using e)]
 | [],_::_,e=>by simp[zvr] at e
 | _::_,[],e=>by simp[zvr] at e
theorem zvs:∀ (t:T) (x y:t.den),z8u t=true->eqD t x y=true->x=y
 | .int _,x,y,_,e=>by simpa[eqD] using e
 | .bool,x,y,_,e=>by simpa[eqD] using e
 | .str,x,y,_,e=>by simpa[eqD] using e
 | .unit,_,_,_,_=>rfl
 | .pair a b,x,y,h,e=>by
   obtain⟨k1,k2⟩:=z7 h;simp only[eqD] at e;cases h1:eqD a x.1 y.1 with
   | false=>rw[h1] at e;simp at e
   | true =>
     rw[h1] at e;exact Prod.ext (zvs a _ _ k1 h1) (zvs b _ _ k2 (by simpa using e))
 | .arr n t,xs,ys,h,e=>by
   simp only[eqD] at e;exact z105 (fun x y h1=>zvs t x y h h1) xs ys e
 | .opq,_,_,h,_=>by simp[z8u] at h
 | .sl _,_,_,h,_=>by simp[z8u] at h
 | .ptr _,_,_,h,_=>by simp[z8u] at h
 | .own _,_,_,h,_=>by simp[z8u] at h
 | .any,_,_,h,_=>by simp[z8u] at h
 | .self _,_,_,h,_=>by simp[z8u] at h
 | .byt _,_,_,h,_=>by simp[z8u] at h
 | .fn _ _,_,_,h,_=>by simp[z8u] at h
 | .mp _ _,_,_,h,_=>by simp[z8u] at h
 | .nb _,_,_,h,_=>by simp[z8u] at h
 | .ifc _ _,_,_,h,_=>by simp[z8u] at h
 | .nod,_,_,h,_=>by simp[z8u] at h
theorem zy6 (x y:List UInt8):((⟨⟨x⟩⟩:ByteArray) == ⟨⟨y⟩⟩)=(x == y):=by
 have h:∀ (a b:ByteArray),(a == b)=(a.data == b.data):=fun a b=>rfl
 rw[h];show ((⟨x⟩:Array UInt8) == ⟨y⟩)=(x == y)
 simp
theorem zec (n:Nat):∀ (t:T) (x:t.den),z8u t=true->∀ v∈zc t x,Instr.sameBits n v v=true
 | .int _,_,_,v,hv=>by simp[zc] at hv;subst hv;cases n<;>simp[Instr.sameBits]
 | .bool,_,_,v,hv=>by simp[zc] at hv;subst hv;cases n<;>simp[Instr.sameBits]
 | .str,x,_,v,hv=>by
   simp[zc] at hv;subst hv;have e:=zy6 x x;simp only[beq_self_eq_true] at e;cases n<;>exact e
 | .unit,_,_,v,hv=>by simp[zc] at hv
 | .pair a b,x,h,v,hv=>by
   obtain⟨k1,k2⟩:=z7 h;simp only[zc,List.mem_append] at hv;exact hv.elim (zec n a _ k1 v) (zec n b _ k2 v)
 | .arr m t,xs,h,v,hv=>by
   simp only[zc,List.mem_flatten,List.mem_map] at hv;obtain⟨l,⟨x,_,rfl⟩,hv⟩:=hv;exact zec n t x h v hv
 | .opq,_,h,_,_=>by simp[z8u] at h
 | .sl _,_,h,_,_=>by simp[z8u] at h
 | .ptr _,_,h,_,_=>by simp[z8u] at h
 | .own _,_,h,_,_=>by simp[z8u] at h
 | .any,_,h,_,_=>by simp[z8u] at h
 | .self _,_,h,_,_=>by simp[z8u] at h
 | .byt _,_,h,_,_=>by simp[z8u] at h
 | .fn _ _,_,h,_,_=>by simp[z8u] at h
 | .mp _ _,_,h,_,_=>by simp[z8u] at h
 | .nb _,_,h,_,_=>by simp[z8u] at h
 | .ifc _ _,_,h,_,_=>by simp[z8u] at h
 | .nod,_,h,_,_=>by simp[z8u] at h
theorem zyh {t:T} {x:t.den} {v:Value} (h:z8u t=true) (hv:VR S t x v):(Instr.keyThatStays v v).run P w=.ok v w:=by
 have hs : Instr.sameBits 10000 v v=true:=by
  unfold VR at hv;split at hv
  . obtain⟨cs,rfl,hr⟩:=hv;have hc:=z6q t x _ h hr;show Instr.sameBits (9999+1) _ _=true;simp only[Instr.sameBits,beq_self_eq_true,Bool.true_and,List.all_eq_true];rintro⟨p,q⟩ hpq;have hpq:p=q/\p∈cs.toList:=by
     have:∀ (l:List Value),(p,q)∈l.zip l->p=q/\p∈l:=by
      intro l
      induction l with
      | nil=>intro h;simp at h
      | cons z l ih =>
        intro h;simp only[List.zip_cons_cons,List.mem_cons,Prod.mk.injEq] at h;rcases h with⟨rfl,rfl⟩|h
        . exact⟨rfl,by simp⟩
        . exact⟨(ih h).1,by simp[(ih h).2]⟩
     exact this _ hpq
    obtain⟨rfl,hm⟩:=hpq;exact zec 9999 t x h p (by rw[<- hc];exact hm)
  . have hc:=z6q t x _ h hv;exact zec 10000 t x h v (by rw[<- hc];simp)
 simp[Instr.keyThatStays,hs]
theorem zp7 {α:Type}(B:α->PUnit->Sem (ForInStep PUnit)):∀ (l:List α),(∀ x∈l,(B x PUnit.unit).run P w=.ok (.yield PUnit.unit) w)->(forIn l PUnit.unit B).run P w=.ok PUnit.unit w
 | [],_=>by simp
 | x::l,h=>by
   simp only[List.forIn_cons,Sem.run_bind,h x (by simp),Result.andThen_ok];exact zp7 B l (fun y hy=>h y (by simp[hy]))
theorem zto {E:Env} (hb:EnvOk P E) {S:Hp} (em:Bool):∀ (u:T),
 (∀ (i:TypeId) (d:Nat) (x:u.den) (v:Value),z2l E u (.inl i)=true->z4f u<=d->VR S u x v->(Instr.checkKey em (d+1) i v).run P w=.ok () w) ∧
 (∀ (fs:List Field) (off d:Nat) (xs:Array Value) (c0 c1:List Value) (x:u.den),z2l E u (.inr (fs,off))=true->z4f u<=d->xs.toList=c0++c1->c0.length=off->Rd S u x c1 →
  ∀ f ∈ fs, f.name ≠ "_" -> ∃ v, (part f.type xs f.offset).run P w = .ok v w /\ (Instr.checkKey em d f.type v).run P w = .ok () w) := by
 intro u;have fields:∀ (a b:T),(∀ (i:TypeId) (d:Nat) (x:a.den) (v:Value),z2l E a (.inl i)=true->z4f a<=d->VR S a x v->(Instr.checkKey em (d+1) i v).run P w=.ok () w) →
  (∀ (fs:List Field) (off d:Nat) (xs:Array Value) (c0 c1:List Value) (x:b.den),z2l E b (.inr (fs,off))=true->z4f b<=d->xs.toList=c0++c1->c0.length=off->Rd S b x c1 →
   ∀ f ∈ fs, f.name ≠ "_" -> ∃ v, (part f.type xs f.offset).run P w = .ok v w /\ (Instr.checkKey em d f.type v).run P w = .ok () w) →
  ∀ (g:Field) (r:List Field) (off d:Nat) (xs:Array Value) (c0 c1:List Value) (x:(T.pair a b).den),z2l E a (.inl g.type)=true->z2l E b (.inr (r,off+a.size))=true->g.offset=off->(match E.ty g.type with
    | some e=>teq e.t a
    | none=>false)=true->z4f (.pair a b)<=d->xs.toList=c0++c1->c0.length=off->Rd S (.pair a b) x c1 →
    ∀ f ∈ g :: r, f.name ≠ "_" -> ∃ v, (part f.type xs f.offset).run P w = .ok v w /\ (Instr.checkKey em d f.type v).run P w = .ok () w := by
  intro a b iha ihb g r off d xs c0 c1 x h1 h2 h3 h4 hd hx hx0 hr f hf hn;obtain⟨d1,d2,e,r1,r2⟩:=hr;rcases List.mem_cons.1 hf with rfl|hf
  . split at h4
    case h_2=>cases h4
    rename_i e' he';have ht:=z1v h4;subst ht;obtain⟨v,hv,hvr⟩:=za0 (P:=P) (w:=w) (hb.ty _ _ he') (cs:=xs) (c0:=c0) (c1:=d1) (c2:=d2) (by rw[hx,e]) r1;simp only[z4f] at hd;obtain⟨d',rfl⟩:∃ d',d=d'+1:=⟨d - 1,by omega⟩
    exact⟨v,by rw[h3,<- hx0];exact hv,iha _ _ _ _ h1 (by omega) hvr⟩
  . simp only[z4f] at hd;exact ihb r _ d xs (c0++d1) d2 x.2 h2 (by omega) (by rw[hx,e,List.append_assoc]) (by rw[List.length_append,hx0,r1.length]) r2 f hf hn
 induction u with
 | int k =>
   refine⟨fun i d x v h hd hx=>?_,fun fs off d xs c0 c1 x h=>by simp[z2l] at h⟩;simp only[z2l] at h;split at h
   case h_2=>cases h
   rename_i e he;obtain⟨h1,h2⟩:=z7 h;have hu:=(hb.ty _ _ he).und;rw[hx.int_inv];split at h2
   . rename_i q hq;rw[hq] at hu;simp[Instr.checkKey,run_underlying hu]
   . cases h2
 | bool =>
   refine⟨fun i d x v h hd hx=>?_,fun fs off d xs c0 c1 x h=>by simp[z2l] at h⟩;simp only[z2l] at h;unfold zg4 at h;split at h
   . rename_i e he;have hu:=(hb.ty _ _ he).und;split at h
     . rename_i hq;rw[hq] at hu;rw[hx.bool_inv];simp[Instr.checkKey,run_underlying hu]
     . cases h
   . cases h
 | str =>
   refine⟨fun i d x v h hd hx=>?_,fun fs off d xs c0 c1 x h=>by simp[z2l] at h⟩;simp only[z2l] at h;split at h
   . rename_i e he;have hu:=z13q hb he h;rw[hx.str_inv];simp[Instr.checkKey,run_underlying hu]
   . cases h
 | unit =>
   constructor
   . intro i d x v h hd hx;simp only[z2l] at h;split at h
     case h_2=>cases h
     rename_i e he;obtain⟨h1,h2⟩:=z7 h;split at h2
     case h_2=>cases h2
     rename_i fs hfs;have hu:=(hb.ty _ _ he).und;rw[hfs] at hu;obtain⟨cs,rfl,_⟩:=VR.agg_inv (u:=.unit) rfl hx;have:fs=#[]:=by
      have:=Nat.eq_of_beq_eq_true h2;exact Array.size_eq_zero_iff.1 this
     subst this;simp[Instr.checkKey,run_underlying hu]
   . intro fs off d xs c0 c1 x h hd _ _ _ f hf;simp only[z2l] at h;split at h
     case h_2=>cases h
     cases hf
 | pair a b iha ihb =>
   constructor
   . intro i d x v h hd hx;simp only[z2l] at h;split at h
     case h_2=>cases h
     rename_i e he;obtain⟨h1,h2⟩:=z7 h;split at h2
     case h_2=>cases h2
     rename_i fs hfs;split at h2
     case h_2=>cases h2
     rename_i f r hl;obtain⟨h4,h5⟩:=z7 h2;obtain⟨h4,h6⟩:=z7 h4;obtain⟨h5,h7⟩:=z7 h5;obtain⟨h7,h8⟩:=z7 h7;have hu:=(hb.ty _ _ he).und;rw[hfs] at hu;obtain⟨cs,rfl,hxr⟩:=VR.agg_inv (u:=.pair a b) rfl hx;have hfl:=fields a b iha.1 ihb.2 f r 0 d cs [] cs.toList x h4 (by rw[Nat.zero_add];exact h6) (Nat.eq_of_beq_eq_true h7) h8 hd rfl rfl hxr;rw[Instr.checkKey];simp only[Sem.run_bind,run_underlying hu,Result.andThen_ok];rw[<- Array.forIn_toList];refine Eq.trans (congrArg (fun r=>Result.andThen r _) (zp7 _ _ fun f' hf'=>?_)) rfl;by_cases hn : f'.name = "_"
     . simp[hn]
     . obtain⟨v,g1,g2⟩:=hfl f' (by rw[<- hl];exact hf') hn;simp[hn,g1,g2]
   . intro fs off d xs c0 c1 x h hd hx hx0 hrx;simp only[z2l] at h;split at h
     case h_2=>cases h
     rename_i f r;obtain⟨h4,h5⟩:=z7 h;obtain⟨h4,h6⟩:=z7 h4;obtain⟨h5,h7⟩:=z7 h5;obtain⟨h7,h8⟩:=z7 h7;exact fields a b iha.1 ihb.2 f r off d xs c0 c1 x h4 h6 (Nat.eq_of_beq_eq_true h7) h8 hd hx hx0 hrx
 | arr n u ih =>
   refine⟨fun i d x v h hd hx=>?_,fun fs off d xs c0 c1 x h=>by simp[z2l] at h⟩;simp only[z2l] at h;split at h
   case h_2=>cases h
   rename_i e he;obtain⟨h1,h2⟩:=z7 h;split at h2
   case h_2=>cases h2
   rename_i m el hm;obtain⟨h4,h5⟩:=z7 h2;obtain⟨h5,h6⟩:=z7 h5;have h4:=Nat.eq_of_beq_eq_true h4;subst h4;split at h6
   case h_2=>cases h6
   rename_i g hg;have ht:=z1v h6;subst ht;have hgt:=hb.ty _ _ hg;have hu:=(hb.ty _ _ he).und;rw[hm] at hu;obtain⟨cs,rfl,hxl,hxr⟩:=VR.agg_inv (u:=.arr n g.t) rfl hx;simp only[z4f] at hd;obtain⟨d,rfl⟩:∃ d',d=d'+1:=⟨d - 1,by omega⟩
   rw[Instr.checkKey];simp only[Sem.run_bind,run_underlying hu,Result.andThen_ok];simp only[Std.Legacy.Range.forIn_eq_forIn_range',Std.Legacy.Range.size,Nat.sub_zero,Nat.add_one_sub_one,Nat.div_one];refine Eq.trans (congrArg (fun r=>Result.andThen r _) (zp7 _ _ fun k hk=>?_)) rfl;have hkn:k<n:=by simpa using hk
   obtain⟨e0,e1,e2,ecs,el0,er,_,_⟩:=hxr.at (Rd.length g.t) (by rw[hxl];exact hkn) g.t.dflt;obtain⟨v,hv,hvr⟩:=za0 (P:=P) (w:=w) hgt (cs:=cs) (c0:=e0) (c1:=e1) (c2:=e2) (by rw[ecs]) er;have hq:=ih.1 el d _ v h5 (by omega) hvr;rw[el0,hgt.size] at hv;simp[z13 hgt,hv,hq]
 | opq=>exact⟨fun i d x v h=>by simp[z2l] at h,fun fs off d xs c0 c1 x h=>by simp[z2l] at h⟩
 | sl t _=>exact⟨fun i d x v h=>by simp[z2l] at h,fun fs off d xs c0 c1 x h=>by simp[z2l] at h⟩
 | ptr t _=>exact⟨fun i d x v h=>by simp[z2l] at h,fun fs off d xs c0 c1 x h=>by simp[z2l] at h⟩
 | own t _=>exact⟨fun i d x v h=>by simp[z2l] at h,fun fs off d xs c0 c1 x h=>by simp[z2l] at h⟩
 | any=>exact⟨fun i d x v h=>by simp[z2l] at h,fun fs off d xs c0 c1 x h=>by simp[z2l] at h⟩
 | self ty=>exact⟨fun i d x v h=>by simp[z2l] at h,fun fs off d xs c0 c1 x h=>by simp[z2l] at h⟩
 | byt ty=>exact⟨fun i d x v h=>by simp[z2l] at h,fun fs off d xs c0 c1 x h=>by simp[z2l] at h⟩
 | fn f t _=>exact⟨fun i d x v h=>by simp[z2l] at h,fun fs off d xs c0 c1 x h=>by simp[z2l] at h⟩
 | mp k v _ _=>exact⟨fun i d x v h=>by simp[z2l] at h,fun fs off d xs c0 c1 x h=>by simp[z2l] at h⟩
 | nb t _=>exact⟨fun i d x v h=>by simp[z2l] at h,fun fs off d xs c0 c1 x h=>by simp[z2l] at h⟩
 | ifc ty t _=>exact⟨fun i d x v h=>by simp[z2l] at h,fun fs off d xs c0 c1 x h=>by simp[z2l] at h⟩
 | nod=>exact⟨fun i d x v h=>by simp[z2l] at h,fun fs off d xs c0 c1 x h=>by simp[z2l] at h⟩
def Found (S:Hp)(k v:T)(f:k.den->k.den->Bool)(key:k.den)(off:Nat)(xs:List (k.den×v.den))(es:List MapEntry)(r:Option (Nat×Value)):Prop :=
 (r=none/\∀ x∈xs,f key x.1=false)\/∃ x1 y x2 e1 e e2,xs=x1++y::x2/\es=e1++e::e2/\e1.length=x1.length/\(∀ x∈x1,f key x.1=false)/\f key y.1=true ∧
 Ents S k v x1 e1/\VR S k y.1 e.key/\VR S v y.2 e.val/\Ents S k v x2 e2/\r=some (off+x1.length,e.val)
theorem Found.cons {S:Hp}{k v:T}{f:k.den->k.den->Bool}{key:k.den}{off:Nat}{x:k.den×v.den}{xs:List (k.den×v.den)}{e:MapEntry}{es:List MapEntry}{r:Option (Nat×Value)}(hn:f key x.1=false)(h1:VR S k x.1 e.key)(h2:VR S v x.2 e.val)
 (h:Found S k v f key (off+1) xs es r):Found S k v f key off (x::xs) (e::es) r:=by
 rcases h with⟨e1,e2⟩|⟨x1,y,x2,l1,e',l2,g1,g2,g3,g4,g5,g6,g7,g8,g9,g10⟩
 . refine .inl ⟨e1,fun z hz=>?_⟩;rcases List.mem_cons.1 hz with rfl|hz
   . exact hn
   . exact e2 z hz
 . refine .inr ⟨x::x1,y,x2,e::l1,e',l2,by rw[g1];rfl,by rw[g2];rfl,by simp[g3],fun z hz=>?_,g5,⟨e,l1,rfl,h1,h2,g6⟩,g7,g8,g9,by rw[g10,List.length_cons,Nat.add_assoc,Nat.add_comm 1]⟩;rcases List.mem_cons.1 hz with rfl|hz
   . exact hn
   . exact g4 z hz
theorem zfw {E:Env} (hb:EnvOk P E) {S:Hp} {ki:TypeId} {k v:T} (hk:z2l E k (.inl ki)=true) (hkt:z8u k=true) (hd:z4f k<=9999) {key:k.den} {kv:Value} (hkv:VR S k key kv) {xs:List (k.den×v.den)} {es:List MapEntry} (he:Ents S k v xs es) :
 ∃ r,(Instr.findKey ki kv es).run P w=.ok r w/\Found S k v (eqD k) key 0 xs es r:=by
 -- by asking
 have asking:∀ (xs:List (k.den×v.den)) (es:List MapEntry) (off:Nat),Ents S k v xs es->∃ r,(Instr.findAsking ki kv es off).run P w=.ok r w/\Found S k v (eqD k) key off xs es r:=by
  intro xs
  induction xs with
  | nil=>intro es off he;rw[show es=[] from he];exact⟨none,by simp[Instr.findAsking],.inl ⟨rfl,fun x hx=>by cases hx⟩⟩
  | cons x xs ih =>
    intro es off he;obtain⟨e,es',rfl,h1,h2,h3⟩:=he;have hq:=(eq_T (P:=P) (w:=w) hb (S:=S) k).1 ki 9999 key x.1 kv e.key hk hd hkv h1;cases hf:eqD k key x.1 with
    | true =>
      rw[hf] at hq;exact⟨some (off,e.val),by simp[Instr.findAsking,Op.equal,Op.maxDepth,hq],.inr ⟨[],x,xs,[],e,es',rfl,rfl,rfl,(fun _ h=>by cases h),hf,rfl,h1,h2,h3,rfl⟩⟩
    | false =>
      rw[hf] at hq;obtain⟨r,hr,hF⟩:=ih es' (off+1) h3;exact⟨r,by simp[Instr.findAsking,Op.equal,Op.maxDepth,hq,hr],hF.cons hf h1 h2⟩
 -- at once
 have now:∀ (kind:TypeDesc),(∀ (y:k.den) (u:Value),VR S k y u->Instr.sameNow kind kv u=some (eqD k key y)) →
  ∀ (xs:List (k.den×v.den)) (es:List MapEntry) (off:Nat),Ents S k v xs es->∃ r,Instr.findNow kind kv es off=some r/\Found S k v (eqD k) key off xs es r:=by
  intro kind hkind xs
  induction xs with
  | nil=>intro es off he;rw[show es=[] from he];exact⟨none,rfl,.inl ⟨rfl,fun x hx=>by cases hx⟩⟩
  | cons x xs ih =>
    intro es off he;obtain⟨e,es',rfl,h1,h2,h3⟩:=he;have hq:=hkind x.1 e.key h1;cases hf:eqD k key x.1 with
    | true =>
      rw[hf] at hq;exact⟨some (off,e.val),by simp[Instr.findNow,hq],.inr ⟨[],x,xs,[],e,es',rfl,rfl,rfl,(fun _ h=>by cases h),hf,rfl,h1,h2,h3,rfl⟩⟩
    | false =>
      rw[hf] at hq;obtain⟨r,hr,hF⟩:=ih es' (off+1) h3;exact⟨r,by simp[Instr.findNow,hq,hr],hF.cons hf h1 h2⟩
 have viaNow:∀ {kind:TypeDesc},P.underlying ki=some kind->(∀ (y:k.den) (u:Value),VR S k y u->Instr.sameNow kind kv u=some (eqD k key y))->∃ r,(Instr.findKey ki kv es).run P w=.ok r w/\Found S k v (eqD k) key 0 xs es r:=by
  intro kind hu hkind;obtain⟨r,hr,hF⟩:=now kind hkind xs es 0 he;exact⟨r,by simp[Instr.findKey,run_underlying hu,hr],hF⟩
 have viaAsk:∀ {kind:TypeDesc},P.underlying ki=some kind->k.isAgg=true->∃ r,(Instr.findKey ki kv es).run P w=.ok r w/\Found S k v (eqD k) key 0 xs es r:=by
  intro kind hu hag;obtain⟨cs,ekv,_⟩:=VR.agg_inv hag hkv;cases xs with
  | nil =>
    rw[show es=[] from he];exact⟨none,by simp[Instr.findKey,run_underlying hu,Instr.findNow],.inl ⟨rfl,fun x hx=>by cases hx⟩⟩
  | cons x xs =>
    obtain⟨r,hr,hF⟩:=asking (x::xs) es 0 he;obtain⟨e,es',rfl,h1,h2,h3⟩:=he;have hn:Instr.findNow kind kv (e::es') 0=none:=by
     have:Instr.sameNow kind kv e.key=none:=by
      rw[ekv];generalize e.key=u;cases kind<;>cases u<;>rfl
     simp[Instr.findNow,this]
    exact⟨r,by simp[Instr.findKey,run_underlying hu,hn,hr],hF⟩
 cases k<;>(try (simp[z8u] at hkt;done))
 case int q =>
  simp only[z2l] at hk;split at hk
  case h_2=>cases hk
  rename_i e he';obtain⟨h1,h2⟩:=z7 hk;split at h2
  case h_2=>cases h2
  rename_i q' hq';have hu:=(hb.ty _ _ he').und;rw[hq'] at hu;refine viaNow hu fun y u hy=>?_
  rw[hkv.int_inv,hy.int_inv];simp[Instr.sameNow,eqD]
 case bool =>
  simp only[z2l] at hk;unfold zg4 at hk;split at hk
  case h_2=>cases hk
  rename_i e he';split at hk
  case h_2=>cases hk
  rename_i hq';have hu:=(hb.ty _ _ he').und;rw[hq'] at hu;refine viaNow hu fun y u hy=>?_
  rw[hkv.bool_inv,hy.bool_inv];simp[Instr.sameNow,eqD]
 case str =>
  simp only[z2l] at hk;split at hk
  case h_2=>cases hk
  rename_i e he';refine viaNow (z13q hb he' hk) fun y u hy=>?_
  rw[hkv.str_inv,hy.str_inv];simp only[Instr.sameNow,eqD,zy6]
 case unit =>
  simp only[z2l] at hk;split at hk
  case h_2=>cases hk
  rename_i e he';exact viaAsk (hb.ty _ _ he').und rfl
 case pair x y =>
  simp only[z2l] at hk;split at hk
  case h_2=>cases hk
  rename_i e he';exact viaAsk (hb.ty _ _ he').und rfl
 case arr n x =>
  simp only[z2l] at hk;split at hk
  case h_2=>cases hk
  rename_i e he';exact viaAsk (hb.ty _ _ he').und rfl
theorem zoc (t:T)(x:t.den):cast t t x=some x:=by simp[cast]
theorem zdq {ty ki:TypeId} {ke ve:TyI} (hb:EnvOk P E) (h:zt0 E ty=some (ki,ke,ve)):∃ vi,P.underlying ty=some (.map ki vi)/\E.ty ki=some ke/\E.ty vi=some ve/\z8u ke.t=true/\z4f ke.t<=9999/\noOwn ve.t=true/\z2l E ke.t (.inl ki)=true:=by
 unfold zt0 at h;split at h
 . rename_i e he;split at h
   . rename_i k vi hd;split at h
     . rename_i ke' ve' hk hv;split at h
       . rename_i hck;obtain⟨g1,g0⟩:=z7 hck;obtain⟨g2,g0'⟩:=z7 g0;obtain⟨g3,g4⟩:=z7 g0';cases h;have g5:z4f ke.t<9999:=by simpa using g2
         exact⟨vi,by rw[(hb.ty _ _ he).und,hd],hk,hv,g1,Nat.le_of_lt g5,g3,g4⟩
       . cases h
     . cases h
   . cases h
 . cases h
theorem zia {α β:Type}{f:α->α->Bool}{k:α}:∀ {xs:List (α×β)},(∀ x∈xs,f k x.1=false)->zg2 f k xs=none
 | [],_=>rfl
 | x::xs,h=>by simp only[zg2,h x (by simp)];exact zia fun y hy=>h y (by simp[hy])
theorem zi9 {α β:Type}{f:α->α->Bool}{k:α}{y:α×β}{x2:List (α×β)}(hy:f k y.1=true):∀ {x1:List (α×β)},(∀ x∈x1,f k x.1=false)->zg2 f k (x1++y::x2)=some y.2
 | [],_=>by simp[zg2,hy]
 | x::x1,h=>by simp only[List.cons_append,zg2,h x (by simp)];exact zi9 hy fun z hz=>h z (by simp[hz])
theorem zqd {α β:Type}{f:α->α->Bool}{k:α}{v:β}:∀ {xs:List (α×β)},(∀ x∈xs,f k x.1=false)->z13t f k v xs=xs++[(k,v)]
 | [],_=>rfl
 | x::xs,h=>by simp only[z13t,h x (by simp),List.cons_append];rw[zqd fun y hy=>h y (by simp[hy])]
theorem zqc {α β:Type}{f:α->α->Bool}{k:α}{v:β}{y:α×β}{x2:List (α×β)}(hy:f k y.1=true):∀ {x1:List (α×β)},(∀ x∈x1,f k x.1=false)->z13t f k v (x1++y::x2)=x1++(k,v)::x2
 | [],_=>by simp[z13t,hy]
 | x::x1,h=>by simp only[List.cons_append,z13t,h x (by simp)];rw[zqc hy fun z hz=>h z (by simp[hz])]
theorem zro {α β:Type}{f:α->α->Bool}{k:α}:∀ {xs:List (α×β)},(∀ x∈xs,f k x.1=false)->z14c f k xs=xs
 | [],_=>rfl
 | x::xs,h=>by simp only[z14c,h x (by simp)];rw[zro fun y hy=>h y (by simp[hy])]
theorem zrn {α β:Type}{f:α->α->Bool}{k:α}{y:α×β}{x2:List (α×β)}(hy:f k y.1=true):∀ {x1:List (α×β)},(∀ x∈x1,f k x.1=false)->z14c f k (x1++y::x2)=x1++x2
 | [],_=>by simp[z14c,hy]
 | x::x1,h=>by simp only[List.cons_append,z14c,h x (by simp)];rw[zrn hy fun z hz=>h z (by simp[hz])]
theorem zns {α:Type}(f:α->α)(e:α)(e2:List α):∀ (e1:List α),(e1++e::e2).modify e1.length f=e1++f e::e2
 | []=>rfl
 | x::e1=>by
   have:=zns f e e2 e1;simpa using this
theorem zrg {α:Type}(e:α)(e2:List α):∀ (e1:List α),(e1++e::e2).eraseIdx e1.length=e1++e2
 | []=>rfl
 | x::e1=>by
   have:=zrg e e2 e1;simpa using this
theorem Ents.append {S:Hp}{k v:T}:∀ {xs ys:List (k.den×v.den)} {es fs:List MapEntry},Ents S k v xs es->Ents S k v ys fs->Ents S k v (xs++ys) (es++fs)
 | [],_,_,_,e,h=>by rw[show _=[] from e];exact h
 | _::_,_,_,_,⟨e,es',e1,h1,h2,h3⟩,h=>⟨e,es'++_,by rw[e1];rfl,h1,h2,Ents.append h3 h⟩
theorem zqy {t:TypeId}{hint:Option Operand}(ho:o.op=.makeMap t hint)(h:zn E (z1x E o) st fp=some ((),st',fp'))(hb:Base P E c)(hs:SimD c st a w S ob):Good P c o a w st':=by
 simp only[z1x,ho] at h;unfold znv at h;split at h
 . rename_i ki ke ve hm;obtain⟨vi,hu,_⟩:=zdq hb.env hm;obtain⟨n,fp1,h1,hn⟩:=zgx h hb hs;obtain⟨g1,g2,g3,g4⟩:=hs.pushed (.map #[] 0);refine zb (v:=.map (some w.heap.size)) (w':=pushed w (.map #[] 0)) ?_ (z11 h1 hb g1 (o':=[w.heap.size]) ⟨rfl,VRO.of_one rfl ⟨_,rfl,.inr ⟨[],w.heap.size,#[],0,rfl,rfl,rfl,z4x _ _,rfl,by simp,by simp⟩⟩⟩ (fun b e=>by simp at e;subst e;exact⟨g2,g3,g4⟩) (by simp));cases hn with
   | none=>simp[execOp,ho,Instr.makeMap,newObj,Sem.run,pushed];try rfl
   | some e=>simp[execOp,ho,Instr.makeMap,e,run_underlying hu,asInt,asIntOf,newObj,Sem.run,pushed]
 . exact (z6 h).elim
theorem zt1 {t:TypeId} {x i:Operand} {ok:Bool} (ho:o.op=.lookup t x i ok) (h:zn E (z1x E o) st fp=some ((),st',fp')) (hb:Base P E c) (hs:SimD c st a w S ob):Good P c o a w st':=by
 simp only[z1x,ho] at h;unfold zqz at h;split at h
 . rename_i ki ke ve hm;obtain⟨vi,hu,hke,hve,hkt,hkd,hno,hkq⟩:=zdq hb.env hm;obtain⟨B,fp1,h1,hB,_,_,_⟩:=zw h hs (hb.globS hs);obtain⟨key,st1,fp2,S1,ob1,h2,hs1,hS,hkv,_⟩:=zav h1 hs hB;obtain⟨A,fp3,h3,hA,_,_,_⟩:=zw h2 hs1 (hb.globS hs1);obtain⟨p,q,m,put,fp4,h4,o1,hmp,_,_⟩:=zi5 h3 hs1 hA;clear h h1 h2 h3;split at h4
   . rename_i m' hp' hq' hm';obtain⟨e1,e2⟩:=z12 hm';have e3:=zdd hp';have e4:=zdd hq';subst e3;subst e4;obtain rfl:m=m':=e2;obtain⟨z,hz,hzv⟩:=z58 (P:=P) (w:=w) (hb.tyOk hve)
     -- what the entries are
     have zj8:∃ u,VR S1 ve.t ((zg2 (eqD ke.t) key (m.getD [])).getD ve.zero) u/\(Instr.lookup t (a.eval x) (a.eval i) ok).run P w=.ok (if ok then .tuple #[u,.bool (zg2 (eqD ke.t) key (m.getD [])).isSome] else u) w:=by
      have go:∀ (xs:List (ke.t.den×ve.t.den)) (es:List MapEntry) (em:Bool),Ents S1 ke.t ve.t xs es->∃ u,VR S1 ve.t ((zg2 (eqD ke.t) key xs).getD ve.zero) u ∧
       ∃ r,(Instr.checkKey em 10000 ki (a.eval i)).run P w=.ok () w/\(Instr.findKey ki (a.eval i) es).run P w=.ok r w/\((r=none/\u=z/\(zg2 (eqD ke.t) key xs).isSome=false)\/∃ j,r=some (j,u)/\(zg2 (eqD ke.t) key xs).isSome=true):=by
       intro xs es em he;have hc:=(zto (P:=P) (w:=w) hb.env (S:=S1) em ke.t).1 ki 9999 key (a.eval i) hkq hkd hkv;obtain⟨r,hr,hF⟩:=zfw (P:=P) (w:=w) hb.env hkq hkt hkd hkv he;rcases hF with⟨e1,e2⟩|⟨x1,y,x2,l1,e',l2,g1,g2,g3,g4,g5,g6,g7,g8,g9,g10⟩
       . exact⟨z,by rw[zia e2];exact hzv.mono (zc3 _),r,hc,hr,.inl ⟨e1,rfl,by rw[zia e2];rfl⟩⟩
       . rw[g1];exact⟨e'.val,by rw[zi9 g5 g4];exact g8,r,hc,hr,.inr ⟨_,g10,by rw[zi9 g5 g4];rfl⟩⟩
      rcases hmp with⟨e1,e2,_⟩|⟨xs,b,es,cl,e1,e2,e3,e4,e5,_⟩
      . subst e1;obtain⟨u,hu1,r,hc,hr,hrr⟩:=go [] [] true rfl;refine⟨u,hu1,?_⟩;rcases hrr with⟨rfl,rfl,hf⟩|⟨j,rfl,hf⟩
        . simp[Instr.lookup,run_underlying hu,e2,hc,hr,hz,hf]
        . simp[Instr.lookup,run_underlying hu,e2,hc,hr,hf]
      . subst e1;obtain⟨u,hu1,r,hc,hr,hrr⟩:=go xs es.toList es.isEmpty e5;refine⟨u,hu1,?_⟩;rcases hrr with⟨rfl,rfl,hf⟩|⟨j,rfl,hf⟩
        . simp[Instr.lookup,run_underlying hu,e3,z6c e4,hc,hr,hz,hf]
        . simp[Instr.lookup,run_underlying hu,e3,z6c e4,hc,hr,hf]
     obtain⟨u,hu1,hrun⟩:=zj8;cases ok
     . exact zb (v:=u) (w':=w) (by simp[execOp,ho,hrun]) (zk h4 hb hs1 hu1)
     . refine zb (v:=.tuple #[u,.bool (zg2 (eqD ke.t) key (m.getD [])).isSome]) (w':=w) (by simp[execOp,ho,hrun]) (z11 h4 hb hs1 (o':=[]) ⟨rfl,_,rfl,.cons hu1 (.cons VR.bool .nil)⟩ (fun b e=>by cases e))
   . exact (z6 h4).elim
 . exact (z6 h).elim
theorem zmu {t:TypeId} {x i y:Operand} (ho:o.op=.mapUpdate t x i y) (h:zn E (z1x E o) st fp=some ((),st',fp')) (hb:Base P E c) (hs:SimD c st a w S ob):Good P c o a w st':=by
 simp only[z1x,ho] at h;unfold zj6 at h;split at h
 . rename_i ki ke ve hd hm;obtain⟨vi,hu,hke,hve,hkt,hkd,hno,hkq⟩:=zdq hb.env hm;obtain⟨B,fp1,h1,hB,_,_,_⟩:=zw h hs (hb.globS hs);obtain⟨key,st1,fp2,S1,ob1,h2,hs1,hS,hkv,_⟩:=zav h1 hs hB;obtain⟨C,fp1',h1',hC,_,_,_⟩:=zw h2 hs1 (hb.globS hs1);obtain⟨val,st2,fp2',S2,ob2,h2',hs2,hS2,hvv,_⟩:=zav h1' hs1 hC;obtain⟨A,fp3,h3,hA,_,_,_⟩:=zw h2' hs2 (hb.globS hs2);obtain⟨p,q,m,put,fp4,h4,o1,hmp,hin,hput⟩:=zi5 h3 hs2 hA;clear h h1 h2 h3 h1' h2';have hkv:=hkv.mono hS2;split at h4
   . rename_i m' hm';obtain⟨hsome,h5⟩:=zr h4;obtain⟨e1,e2⟩:=z12 hm';cases e1;obtain rfl:m=m':=e2;rw[zoc] at h5;dsimp only at h5;obtain⟨st3,fp5,h6,hsim⟩:=hput _ _ _ h5;obtain rfl:=(z3u h6).2;rcases hmp with⟨e1,_⟩|⟨xs,b,es,cl,e1,e2,e3,e4,e5,e6,e7⟩
     . rw[e1] at hsome;cases hsome
     subst e1;have hc:=(zto (P:=P) (w:=w) hb.env (S:=S2) false ke.t).1 ki 9999 key (a.eval i) hkq hkd hkv;obtain⟨r,hr,hF⟩:=zfw (P:=P) (w:=w) hb.env hkq hkt hkd hkv e5;have hput1:a.put o.dst undef=a:=by rw[hd];rfl
     have fin:∀ (es':Array MapEntry) (cl':Nat),(execOp a.eval o).run P w=.ok .skip (z19 w b (.map es' cl'))->Ents S2 ke.t ve.t (z13t (eqD ke.t) key val xs) es'.toList->(es'.toList.map (·.born)).Nodup->(∀ e∈es'.toList,e.born<cl')->Good P c o a w st':=by
      intro es' cl' hrun hE hN hB;refine z9m hrun ?_;rw[hput1];have hbm:b∈o1:=by rw[e2];simp
      refine⟨S2,ob2,hsim _ (.inr ⟨_,b,es',cl',rfl,e2,e3,z1y e4,hE,hN,hB⟩) (fun b' hne=>zo (fun e=>hne (by rw[e];exact hbm))) (hs2.frame.setObj ?_ _) (by rw[e2];simp)⟩;obtain⟨j,hj⟩:=hin b hbm;exact hs2.fresh j b hj
     have hset:=fun (es':Array MapEntry) (cl':Nat)=>zek (P:=P) (w:=w) (b:=b) (o:=.map es' cl') e4 (fun cs E fr h=>by cases h)
     rcases hF with⟨f1,f2⟩|⟨x1,y',x2,l1,e',l2,g1,g2,g3,g4,g5,g6,g7,g8,g9,g10⟩
     . subst f1;refine fin (es.push { key:=a.eval i,val:=a.eval y,born:=cl }) (cl+1) ?_ ?_ ?_ ?_
       . simp[execOp,ho,Instr.mapUpdate,run_underlying hu,e3,z6c e4,hc,hr,hset]
       . rw[zqd f2,Array.toList_push];exact e5.append ⟨_,[],rfl,hkv,hvv,rfl⟩
       . rw[Array.toList_push,List.map_append,List.nodup_append];refine⟨e6,by simp,fun x hx z hz e=>?_⟩;simp at hz;subst e;subst hz;rw[List.mem_map] at hx;obtain⟨e0,he0,rfl⟩:=hx;exact absurd (e7 e0 he0) (Nat.lt_irrefl _)
       . intro e he;rw[Array.toList_push,List.mem_append] at he;rcases he with he|he
         . exact Nat.lt_succ_of_lt (e7 e he)
         . simp at he;subst he;exact Nat.lt_succ_self _
     . subst g10;have hkeys:e'.key=a.eval i:=by
        have:=zvs _ _ _ hkt g5;rw[<- this] at g7;exact z12p hkt g7 hkv
       have hat:es[x1.length]?=some e':=by
        rw[<- Array.getElem?_toList,g2,<- g3,List.getElem?_append_right (Nat.le_refl _),Nat.sub_self];rfl
       have hst:=zyh (P:=P) (w:=w) hkt hkv;have hml:(es.modify x1.length fun e=>{ e with key:=a.eval i,val:=a.eval y }).toList=l1++{ e' with key:=a.eval i,val:=a.eval y }::l2:=by
        rw[Array.toList_modify,g2,<- g3,zns]
       refine fin (es.modify x1.length fun e=>{ e with key:=a.eval i,val:=a.eval y }) cl ?_ ?_ ?_ ?_
       . simp only[Nat.zero_add] at hr;simp[execOp,ho,Instr.mapUpdate,run_underlying hu,e3,z6c e4,hc,hr,hat,hkeys,hst,hset]
       . rw[hml,g1,zqc g5 g4];exact g6.append ⟨_,l2,rfl,hkv,hvv,g9⟩
       . rw[hml];rw[g2] at e6;simpa using e6
       . rw[hml];rw[g2] at e7;intro e he;rw[List.mem_append,List.mem_cons] at he;rcases he with he|rfl|he
         . exact e7 e (by simp[he])
         . exact e7 e' (by simp)
         . exact e7 e (by simp[he])
   . exact (z6 h4).elim
 . exact (z6 h).elim
theorem ztj {x i:Operand} {t:TypeId} {ts:Array TypeId} (ho:o.op=.call { callee:=.builtin .delete,args:=#[x,i],argTypes:=ts }) (hts:ts[0]?=some t)
 (h:zn E (zm6 E t x i o.dst) st fp=some ((),st',fp')) (hb:Base P E c) (hs:SimD c st a w S ob):Good P c o a w st':=by
 unfold zm6 at h;split at h
 . rename_i ki ke ve hd hm;obtain⟨vi,hu,hke,hve,hkt,hkd,hno,hkq⟩:=zdq hb.env hm;obtain⟨B,fp1,h1,hB,_,_,_⟩:=zw h hs (hb.globS hs);obtain⟨key,st1,fp2,S1,ob1,h2,hs1,hS,hkv,_⟩:=zav h1 hs hB;obtain⟨A,fp3,h3,hA,_,_,_⟩:=zw h2 hs1 (hb.globS hs1);obtain⟨p,q,m,put,fp4,h4,o1,hmp,hin,hput⟩:=zi5 h3 hs1 hA;clear h h1 h2 h3;split at h4
   . rename_i m' hm';obtain⟨hsome,h5⟩:=zr h4;obtain⟨e1,e2⟩:=z12 hm';cases e1;obtain rfl:m=m':=e2;rw[zoc] at h5;dsimp only at h5;obtain⟨st3,fp5,h6,hsim⟩:=hput _ _ _ h5;obtain rfl:=(z3u h6).2;rcases hmp with⟨e1,_⟩|⟨xs,b,es,cl,e1,e2,e3,e4,e5,e6,e7⟩
     . rw[e1] at hsome;cases hsome
     subst e1;have hc:=(zto (P:=P) (w:=w) hb.env (S:=S1) es.isEmpty ke.t).1 ki 9999 key (a.eval i) hkq hkd hkv;obtain⟨r,hr,hF⟩:=zfw (P:=P) (w:=w) hb.env hkq hkt hkd hkv e5;have hput1:a.put o.dst (.tuple #[])=a:=by rw[hd];rfl
     have fin:∀ (es':Array MapEntry),(execOp a.eval o).run P w=.ok (.value (.tuple #[])) (z19 w b (.map es' cl))->Ents S1 ke.t ve.t (z14c (eqD ke.t) key xs) es'.toList->(es'.toList.map (·.born)).Nodup->(∀ e∈es'.toList,e.born<cl)->Good P c o a w st':=by
      intro es' hrun hE hN hB;refine zb hrun ?_;rw[hput1];have hbm:b∈o1:=by rw[e2];simp
      refine⟨S1,ob1,hsim _ (.inr ⟨_,b,es',cl,rfl,e2,e3,z1y e4,hE,hN,hB⟩) (fun b' hne=>zo (fun e=>hne (by rw[e];exact hbm))) (hs1.frame.setObj ?_ _) (by rw[e2];simp)⟩;obtain⟨j,hj⟩:=hin b hbm;exact hs1.fresh j b hj
     have hset:=fun (es':Array MapEntry)=>zek (P:=P) (w:=w) (b:=b) (o:=.map es' cl) e4 (fun cs E fr h=>by cases h)
     rcases hF with⟨f1,f2⟩|⟨x1,y',x2,l1,e',l2,g1,g2,g3,g4,g5,g6,g7,g8,g9,g10⟩
     . subst f1;refine fin es ?_ (by rw[zro f2];exact e5) e6 e7;simp[execOp,ho,resolve,invoke,builtin,Builtin.delete_,hts,run_underlying hu,e3,z6c e4,hc,hr,hset]
     . subst g10;have hml:(es.eraseIdxIfInBounds x1.length).toList=l1++l2:=by
        rw[Array.toList_eraseIdxIfInBounds,g2,<- g3,zrg]
       refine fin (es.eraseIdxIfInBounds x1.length) ?_ (by rw[hml,g1,zrn g5 g4];exact g6.append g9) ?_ ?_
       . simp only[Nat.zero_add] at hr;simp[execOp,ho,resolve,invoke,builtin,Builtin.delete_,hts,run_underlying hu,e3,z6c e4,hc,hr,hset]
       . rw[hml];rw[g2] at e6;refine e6.sublist ?_;simp
       . rw[hml];rw[g2] at e7;intro e he;rw[List.mem_append] at he;rcases he with he|he
         . exact e7 e (by simp[he])
         . exact e7 e (by simp[he])
   . exact (z6 h4).elim
 . exact (z6 h).elim
theorem zxa {x:Operand}{t:TypeId}(ho:o.op=.call { callee:=.builtin .clear,args:=#[x],argTypes:=#[t] })
 (h:zn E (zpg E t x o.dst) st fp=some ((),st',fp')) (hb:Base P E c) (hs:SimD c st a w S ob):Good P c o a w st':=by
 unfold zpg at h;split at h
 . rename_i q0 hd hm;obtain⟨ki,ke,ve⟩:=q0;obtain⟨vi,hu,_⟩:=zdq hb.env hm;obtain⟨A,fp3,h3,hA,_,_,_⟩:=zw h hs (hb.globS hs);obtain⟨p,q,m,put,fp4,h4,o1,hmp,hin,hput⟩:=zi5 h3 hs hA;clear h h3;obtain⟨hsome,h5⟩:=zr h4;obtain⟨st3,fp5,h6,hsim⟩:=hput _ _ _ h5;obtain rfl:=(z3u h6).2;rcases hmp with⟨e1,_⟩|⟨xs,b,es,cl,e1,e2,e3,e4,e5,e6,e7⟩
   . rw[e1] at hsome;cases hsome
   have hbm:b∈o1:=by rw[e2];simp
   have hset:=zek (P:=P) (w:=w) (b:=b) (o:=.map #[] cl) e4 (fun cs E fr h=>by cases h);have hput1:a.put o.dst (.tuple #[])=a:=by rw[hd];rfl
   refine zb (v:=.tuple #[]) (w':=z19 w b (.map #[] cl)) (by simp[execOp,ho,resolve,invoke,builtin,Builtin.clear_,run_underlying hu,e3,z6c e4,hset]) ?_;rw[hput1];refine⟨S,ob,hsim _ (.inr ⟨[],b,#[],cl,rfl,e2,e3,z1y e4,rfl,by simp,by simp⟩) (fun b' hne=>zo (fun e=>hne (by rw[e];exact hbm))) (hs.frame.setObj ?_ _) (by rw[e2];simp)⟩;obtain⟨j,hj⟩:=hin b hbm;exact hs.fresh j b hj
 . exact (z6 h).elim
end
end
end Go.Lift
