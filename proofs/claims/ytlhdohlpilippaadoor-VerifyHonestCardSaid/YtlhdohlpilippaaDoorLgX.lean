import Derived.Test.YtlhdohlpilippaaDoorLgFa
import Derived.Laws.StructEq
import Derived.ChangeKeysEq
set_option linter.all false
namespace Go.Lift
noncomputable section
section
variable {P:Program} {w:World}
theorem zbq (s:List UInt8):(⟨⟨s⟩⟩:ByteArray).size=s.length:=by simp[ByteArray.size]
theorem z13q {E:Env}{i:TypeId}{e:TyI}(hb:EnvOk P E)(he:E.ty i=some e)(h:zja e.desc=true):P.underlying i=some .string:=by
 rw[(hb.ty i e he).und];cases hd:e.desc<;>rw[hd] at h<;>simp[zja] at h ⊢
theorem za0 {i:TypeId} {e:TyI} (h:TyOk P i e) {cs:Array Value} {c0 c1 c2:List Value} {x:e.t.den} {S:Hp} (hc:cs.toList=c0++(c1++c2)) (hr:Rd S e.t x c1) :
 ∃ v,(part i cs c0.length).run P w=.ok v w/\VR S e.t x v:=by
 have hlen:=hr.length;cases ha:e.t.isAgg with
 | true =>
   refine⟨.agg (cs.extract c0.length (c0.length+e.size)),?_,VR.of_agg ha ?_⟩
   . simp[part,z5u h,ha,z13 h]
   . have:(cs.extract c0.length (c0.length+e.size)).toList=c1:=by
      rw[Array.toList_extract,hc,<- h.size,<- hlen];simp[List.extract]
     rw[this];exact hr
 | false =>
   have hsz:e.t.size=1:=by cases ht:e.t<;>simp_all [T.isAgg,T.size]
   obtain⟨v,rfl⟩:∃ v,c1=[v]:=by
    match c1,hlen with
    | [v],_=>exact⟨v,rfl⟩
    | [],hl=>simp[hsz] at hl
    | _::_::_,hl=>simp[hsz] at hl
   refine⟨v,?_,VR.of_one ha hr⟩;have:cs[c0.length]?=some v:=by rw[<- Array.getElem?_toList,hc];simp
   simp[part,z5u h,ha,this]
theorem z1v {t t':T}(h:teq t t'=true):t=t':=by simpa[teq] using h
theorem VR.agg_inv {S:Hp}{u:T}{x:u.den}{v:Value}(hu:u.isAgg=true)(h:VR S u x v):∃ cs,v=.agg cs/\Rd S u x cs.toList:=by
 unfold VR at h;rw[if_pos hu] at h;exact h
theorem eqLs_nil {α:Type}(f:α->α->Bool):zvr f [] []=true:=rfl
theorem zck {i:TypeId}{fs:Array Field}(h:P.underlying i=some (.struct fs)):P.fieldsOf i=fs:=by simp[Program.fieldsOf,h]
theorem eq_T {E:Env} (hb:EnvOk P E) {S:Hp}:∀ (u:T),
 (∀ (i:TypeId) (d:Nat) (x y:u.den) (v v':Value),z2l E u (.inl i)=true->z4f u<=d->VR S u x v->VR S u y v'->(Op.equalIn (d+1) i v v').run P w=.ok (eqD u x y) w) ∧
 (∀ (fs:List Field) (off d:Nat) (xs ys:Array Value) (c0 c1 d0 d1:List Value) (x y:u.den),z2l E u (.inr (fs,off))=true->z4f u<=d->xs.toList=c0++c1->c0.length=off->ys.toList=d0++d1->d0.length=off →
  Rd S u x c1->Rd S u y d1->(Op.eqFields d xs ys fs).run P w=.ok (eqD u x y) w):=by
 intro u;have fields:∀ (a b:T),
  (∀ (i:TypeId) (d:Nat) (x y:a.den) (v v':Value),z2l E a (.inl i)=true->z4f a<=d->VR S a x v->VR S a y v'->(Op.equalIn (d+1) i v v').run P w=.ok (eqD a x y) w) →
  (∀ (fs:List Field) (off d:Nat) (xs ys:Array Value) (c0 c1 d0 d1:List Value) (x y:b.den),z2l E b (.inr (fs,off))=true->z4f b<=d->xs.toList=c0++c1->c0.length=off->ys.toList=d0++d1->d0.length=off →
   Rd S b x c1->Rd S b y d1->(Op.eqFields d xs ys fs).run P w=.ok (eqD b x y) w) →
  ∀ (f : Field) (r : List Field) (off d : Nat) (xs ys : Array Value) (c0 c1 d0 d1 : List Value) (x y : (T.pair a b).den), z2l E a (.inl f.type) = true -> z2l E b (.inr (r, off + a.size)) = true -> (f.name != "_") = true -> f.offset = off →
    (match E.ty f.type with
     | some g=>teq g.t a
     | none=>false)=true->z4f (T.pair a b)<=d->xs.toList=c0++c1->c0.length=off->ys.toList=d0++d1->d0.length=off->Rd S (T.pair a b) x c1->Rd S (T.pair a b) y d1 →
    (Op.eqFields d xs ys (f::r)).run P w=.ok (eqD (T.pair a b) x y) w:=by
  intro a b iha ihb f r off d xs ys c0 c1 d0 d1 x y h1 h2 hn ho ht hd hx hx0 hy hy0 hrx hry;obtain⟨x1,x2,ex,hx1,hx2⟩:=hrx;obtain⟨y1,y2,ey,hy1,hy2⟩:=hry;split at ht
  case h_2=>cases ht
  rename_i g hg;have ht:=z1v ht;subst ht;have hgt:=hb.ty _ _ hg;simp only[z4f] at hd;obtain⟨d,rfl⟩:∃ d',d=d'+1:=⟨d - 1,by omega⟩
  obtain⟨v,hv,hvr⟩:=za0 (P:=P) (w:=w) hgt (cs:=xs) (c0:=c0) (c1:=x1) (c2:=x2) (by rw[hx,ex]) hx1;obtain⟨v',hv',hvr'⟩:=za0 (P:=P) (w:=w) hgt (cs:=ys) (c0:=d0) (c1:=y1) (c2:=y2) (by rw[hy,ey]) hy1;have hq:=iha f.type d x.1 y.1 v v' h1 (by omega) hvr hvr';have hrest:=ihb r (off+g.t.size) (d+1) xs ys (c0++x1) x2 (d0++y1) y2 x.2 y.2 h2 (by omega) (by rw[hx,ex,List.append_assoc]) (by rw[List.length_append,hx0,hx1.length]) (by rw[hy,ey,List.append_assoc]) (by rw[List.length_append,hy0,hy1.length]) hx2 hy2;rw[hx0] at hv;rw[hy0] at hv';have hn' : f.name ≠ "_" := by simpa using hn
  simp only[Op.eqFields,if_pos hn',Sem.run_bind,ho,hv,hv',hq,Result.andThen_ok,eqD];cases eqD g.t x.1 y.1
  . simp
  . simpa using hrest
 induction u with
 | int k =>
   refine⟨fun i d x y v v' h hd hx hy=>?_,fun fs off d xs ys c0 c1 d0 d1 x y h=>by simp[z2l] at h⟩;simp only[z2l] at h;split at h
   case h_2=>cases h
   rename_i e he;obtain⟨h1,h2⟩:=z7 h;split at h2
   case h_2=>cases h2
   rename_i k' hk';have hu:=(hb.ty _ _ he).und;rw[hk'] at hu;rw[hx.int_inv,hy.int_inv];exact run_equalIn_int w d i k k' x y hu
 | bool =>
   refine⟨fun i d x y v v' h hd hx hy=>?_,fun fs off d xs ys c0 c1 d0 d1 x y h=>by simp[z2l] at h⟩;simp only[z2l] at h;unfold zg4 at h;split at h
   case h_2=>cases h
   rename_i e he;split at h
   case h_2=>cases h
   rename_i hk';have hu:=(hb.ty _ _ he).und;rw[hk'] at hu;rw[hx.bool_inv,hy.bool_inv];exact run_equalIn_bool' w d i x y hu
 | str =>
   refine⟨fun i d x y v v' h hd hx hy=>?_,fun fs off d xs ys c0 c1 d0 d1 x y h=>by simp[z2l] at h⟩;simp only[z2l] at h;split at h
   case h_2=>cases h
   rename_i e he;have hu:=z13q hb he h;rw[hx.str_inv,hy.str_inv,run_equalIn_string w d i _ _ hu];simp[ByteArray.toList_eq,eqD]
 | opq=>exact⟨fun i d x y v v' h=>by simp[z2l] at h,fun fs off d xs ys c0 c1 d0 d1 x y h=>by simp[z2l] at h⟩
 | sl t _=>exact⟨fun i d x y v v' h=>by simp[z2l] at h,fun fs off d xs ys c0 c1 d0 d1 x y h=>by simp[z2l] at h⟩
 | ptr t _=>exact⟨fun i d x y v v' h=>by simp[z2l] at h,fun fs off d xs ys c0 c1 d0 d1 x y h=>by simp[z2l] at h⟩
 | own t _=>exact⟨fun i d x y v v' h=>by simp[z2l] at h,fun fs off d xs ys c0 c1 d0 d1 x y h=>by simp[z2l] at h⟩
 | self ty=>exact⟨fun i d x y v v' h=>by simp[z2l] at h,fun fs off d xs ys c0 c1 d0 d1 x y h=>by simp[z2l] at h⟩
 | byt ty=>exact⟨fun i d x y v v' h=>by simp[z2l] at h,fun fs off d xs ys c0 c1 d0 d1 x y h=>by simp[z2l] at h⟩
 | any=>exact⟨fun i d x y v v' h=>by simp[z2l] at h,fun fs off d xs ys c0 c1 d0 d1 x y h=>by simp[z2l] at h⟩
 | mp k v _ _=>exact⟨fun i d x y v v' h=>by simp[z2l] at h,fun fs off d xs ys c0 c1 d0 d1 x y h=>by simp[z2l] at h⟩
 | nb t _=>exact⟨fun i d x y v v' h=>by simp[z2l] at h,fun fs off d xs ys c0 c1 d0 d1 x y h=>by simp[z2l] at h⟩
 | ifc ty t _=>exact⟨fun i d x y v v' h=>by simp[z2l] at h,fun fs off d xs ys c0 c1 d0 d1 x y h=>by simp[z2l] at h⟩
 | nod=>exact⟨fun i d x y v v' h=>by simp[z2l] at h,fun fs off d xs ys c0 c1 d0 d1 x y h=>by simp[z2l] at h⟩
 | fn f t _=>exact⟨fun i d x y v v' h=>by simp[z2l] at h,fun fs off d xs ys c0 c1 d0 d1 x y h=>by simp[z2l] at h⟩
 | unit =>
   constructor
   . intro i d x y v v' h hd hx hy;simp only[z2l] at h;split at h
     case h_2=>cases h
     rename_i e he;obtain⟨h1,h2⟩:=z7 h;obtain⟨h1,h3⟩:=z7 h1;split at h2
     case h_2=>cases h2
     rename_i fs hfs;have hty:=hb.ty _ _ he;have hu:=hty.und;rw[hfs] at hu;obtain⟨cs,rfl,_⟩:=VR.agg_inv (u:=.unit) rfl hx;obtain⟨ds,rfl,_⟩:=VR.agg_inv (u:=.unit) rfl hy;rw[run_equalIn_struct w d i cs ds (by rw[zck hu];exact hu) (hty.cmp h1).1,zck hu];have:fs.toList=[]:=by
      have:=Nat.eq_of_beq_eq_true h2;rw[<- List.length_eq_zero_iff];simpa using this
     rw[this];simp[Op.eqFields,eqD]
   . intro fs off d xs ys c0 c1 d0 d1 x y h hd _ _ _ _ _ _;simp only[z2l] at h;split at h
     case h_2=>cases h
     simp[Op.eqFields,eqD]
 | pair a b iha ihb =>
   constructor
   . intro i d x y v v' h hd hx hy;simp only[z2l] at h;split at h
     case h_2=>cases h
     rename_i e he;obtain⟨h1,h2⟩:=z7 h;obtain⟨h1,h3⟩:=z7 h1;split at h2
     case h_2=>cases h2
     rename_i fs hfs;split at h2
     case h_2=>cases h2
     rename_i f r hl;obtain⟨h4,h5⟩:=z7 h2;obtain⟨h4,h6⟩:=z7 h4;obtain⟨h5,h7⟩:=z7 h5;obtain⟨h7,h8⟩:=z7 h7;have hty:=hb.ty _ _ he;have hu:=hty.und;rw[hfs] at hu;obtain⟨cs,rfl,hxr⟩:=VR.agg_inv (u:=.pair a b) rfl hx;obtain⟨ds,rfl,hyr⟩:=VR.agg_inv (u:=.pair a b) rfl hy;rw[run_equalIn_struct w d i cs ds (by rw[zck hu];exact hu) (hty.cmp h1).1,zck hu,hl];exact fields a b iha.1 ihb.2 f r 0 d cs ds [] cs.toList [] ds.toList x y h4 (by rw[Nat.zero_add];exact h6) h5 (Nat.eq_of_beq_eq_true h7) h8 hd rfl rfl rfl rfl hxr hyr
   . intro fs off d xs ys c0 c1 d0 d1 x y h hd hx hx0 hy hy0 hrx hry;simp only[z2l] at h;split at h
     case h_2=>cases h
     rename_i f r;obtain⟨h4,h5⟩:=z7 h;obtain⟨h4,h6⟩:=z7 h4;obtain⟨h5,h7⟩:=z7 h5;obtain⟨h7,h8⟩:=z7 h7;exact fields a b iha.1 ihb.2 f r off d xs ys c0 c1 d0 d1 x y h4 h6 h5 (Nat.eq_of_beq_eq_true h7) h8 hd hx hx0 hy hy0 hrx hry
 | arr n u ih =>
   refine⟨fun i d x y v v' h hd hx hy=>?_,fun fs off d xs ys c0 c1 d0 d1 x y h=>by simp[z2l] at h⟩;simp only[z2l] at h;split at h
   case h_2=>cases h
   rename_i e he;obtain⟨h1,h2⟩:=z7 h;obtain⟨h1,h3⟩:=z7 h1;split at h2
   case h_2=>cases h2
   rename_i m el hm;obtain⟨h4,h5⟩:=z7 h2;obtain⟨h5,h6⟩:=z7 h5;have h4:=Nat.eq_of_beq_eq_true h4;subst h4;split at h6
   case h_2=>cases h6
   rename_i g hg;have ht:=z1v h6;subst ht;have hty:=hb.ty _ _ he;have hgt:=hb.ty _ _ hg;have hu:=hty.und;rw[hm] at hu;obtain⟨inf,hinf,hsz,_⟩:=hgt.info;have hcell:P.cellsOf el=g.t.size:=by rw[hgt.size,<- hsz];simp[Program.cellsOf,hinf]
   obtain⟨cs,rfl,hxl,hxr⟩:=VR.agg_inv (u:=.arr n g.t) rfl hx;obtain⟨ds,rfl,hyl,hyr⟩:=VR.agg_inv (u:=.arr n g.t) rfl hy;rw[run_equalIn_array w d cs ds hu hinf,hcell];simp only[z4f] at hd;obtain⟨d,rfl⟩:∃ d',d=d'+1:=⟨d - 1,by omega⟩
   have key:∀ (xs ys:List g.t.den) (k:Nat) (c0 c1 d0 d1:List Value),cs.toList=c0++c1->c0.length=k*g.t.size->ds.toList=d0++d1->d0.length=k*g.t.size->xs.length=ys.length->All (Rd S g.t) xs c1->All (Rd S g.t) ys d1 →
    (Op.eqItems (d+1) el g.t.size cs ds (List.range' k xs.length)).run P w=.ok (zvr (eqD g.t) xs ys) w:=by
    intro xs
    induction xs with
    | nil=>intro ys k c0 c1 d0 d1 _ _ _ _ hl _ _;cases ys<;>simp[Op.eqItems,zvr] at hl ⊢
    | cons x xs ihx =>
      intro ys k c0 c1 d0 d1 hc hc0 hdd hd0 hl hA hB;cases ys with
      | nil=>simp at hl
      | cons y ys =>
        obtain⟨x1,x2,ex,hx1,hx2⟩:=hA;obtain⟨y1,y2,ey,hy1,hy2⟩:=hB;obtain⟨v,hv,hvr⟩:=za0 (P:=P) (w:=w) hgt (cs:=cs) (c0:=c0) (c1:=x1) (c2:=x2) (by rw[hc,ex]) hx1;obtain⟨v',hv',hvr'⟩:=za0 (P:=P) (w:=w) hgt (cs:=ds) (c0:=d0) (c1:=y1) (c2:=y2) (by rw[hdd,ey]) hy1;have hq:=ih.1 el d x y v v' h5 (by omega) hvr hvr';rw[hc0] at hv;rw[hd0] at hv';have hrest:=ihx ys (k+1) (c0++x1) x2 (d0++y1) y2 (by rw[hc,ex,List.append_assoc]) (by rw[List.length_append,hc0,hx1.length,Nat.succ_mul]) (by rw[hdd,ey,List.append_assoc]) (by rw[List.length_append,hd0,hy1.length,Nat.succ_mul]) (by simpa using hl) hx2 hy2;simp only[List.length_cons,List.range'_succ,Op.eqItems,Sem.run_bind,hv,hv',hq,Result.andThen_ok,zvr];cases eqD g.t x y
        . simp
        . simpa using hrest
   have:=key x y 0 [] cs.toList [] ds.toList rfl (by simp) rfl (by simp) (by rw[hxl,hyl]) hxr hyr;rw[hxl] at this;rw[List.range_eq_range'];exact this
theorem z15v {E:Env}(hb:EnvOk P E){S:Hp}{i:TypeId}{u:T}{x y:u.den}{v v':Value}(h:z2l E u (.inl i)=true)(hd:z4f u<9999)(hx:VR S u x v)(hy:VR S u y v')(hu:u.isAgg=true) :
 (binOp .eql i v v').run P w=.ok (.bool (eqD u x y)) w/\(binOp .neq i v v').run P w=.ok (.bool (!(eqD u x y))) w:=by
 have hq:=(eq_T (w:=w) hb u).1 i 9999 x y v v' h (by omega) hx hy;obtain⟨cs,rfl,_⟩:=VR.agg_inv hu hx;obtain⟨ds,rfl,_⟩:=VR.agg_inv hu hy;rw[run_eql_struct,run_neq_struct,hq];exact⟨rfl,rfl⟩
end
end
end Go.Lift
