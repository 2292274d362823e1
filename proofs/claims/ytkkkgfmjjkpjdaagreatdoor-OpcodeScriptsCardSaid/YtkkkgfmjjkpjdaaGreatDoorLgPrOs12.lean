import Derived.Test.YtkkkgfmjjkpjdaaGreatDoorLgPrOs11
import Derived.Test.YtkkkgfmjjkpjdaaGreatDoorLgW
import Derived.LaidLaws
set_option linter.all false
namespace Go.Proofs.YtkkkgfmjjkpjdaaGreatDoorPx
noncomputable section
open Go Go.Lift
theorem z1a0 {α β:Type}{f:α->Option β}:∀ {l:List α} {ys:List β},l.mapM f=some ys->ys.length=l.length/\∀ i,(h:i<l.length)->∃ y,ys[i]?=some y/\f l[i]=some y
 | [],ys,h=>by simp at h;subst h;simp
 | a :: l,ys,h=>by
   simp only[List.mapM_cons,Option.pure_def,Option.bind_eq_bind,Option.bind_eq_some_iff,Option.some.injEq] at h;obtain⟨y,hy,zs,hz,rfl⟩:=h;obtain⟨h1,h2⟩:=z1a0 hz;refine⟨by simp[h1],fun i hi=>?_⟩;cases i with
   | zero=>exact⟨y,rfl,hy⟩
   | succ i =>
     obtain⟨z,e1,e2⟩:=h2 i (by simpa using hi);exact⟨z,by simpa using e1,by simpa using e2⟩
theorem zq0 {H:Type}{enc:TypeId×Value->H}{P:Program}{w:World}{base:Nat}{sp:Nat->Bool}{held:Bool}{fuel:Nat}{t:TypeId}{k:IntKind}{c:Value}{y:DataW H×List MemPlace}
 (ht:P.underlying t=some (.int k)) (h:DataW.trod enc P w base sp held fuel t [c]=some y):∃ n,c=.int k n/\y=(.lit (.int k n),[]):=by
 cases fuel with
 | zero=>simp[DataW.trod] at h
 | succ fuel =>
   cases c<;>simp[DataW.trod,ht] at h
   rename_i k' n;obtain⟨⟨rfl,_⟩,rfl⟩:=h;exact⟨n,rfl,rfl⟩
theorem z1fx {P:Program} {w:World} {base:Nat} {sp:Nat->Bool} {held:Bool} {fuel:Nat} {t e:TypeId} {k:IntKind} {n:Nat} {cs:List Value} {ns:List Int} {p:List MemPlace}
 (ht:P.underlying t=some (.array n e)) (he:P.underlying e=some (.int k)) (hc:P.cellsOf e=1) (hct:P.cellsOf t=n)
 (h:DataW.trod (fun _=>()) P w base sp held fuel t cs=some (.agg (ns.map fun i=>.lit (.int k i)),p)):cs=ns.map (fun i=>.int k i)/\ns.length=n:=by
 cases fuel with
 | zero=>simp[DataW.trod] at h
 | succ fuel =>
   simp only[DataW.trod,ht,hc,hct] at h;split at h
   . rename_i hl;simp only[Option.map_eq_some_iff] at h;obtain⟨xs,hm,hx⟩:=h;obtain⟨h1,h2⟩:=z1a0 hm;simp only[Prod.mk.injEq,DataW.agg.injEq] at hx;have hlen:ns.length=n:=by
      have:=congrArg List.length hx.1;simp only[List.length_map,List.length_range] at this h1;omega
     refine⟨List.ext_getElem? fun i=>?_,hlen⟩;by_cases hi:i<n
     . obtain⟨y,e1,e2⟩:=h2 i (by simpa using hi);have hci:(cs.drop (i*1)).take 1=[cs[i]'(by omega)]:=by
        rw[Nat.mul_one,List.drop_eq_getElem_cons (by omega:i<cs.length)];rfl
       simp only[List.getElem_range] at e2;rw[hci] at e2;obtain⟨m,hm1,hm2⟩:=zq0 he e2;have hy:(xs.map (·.1))[i]?=some (.lit (.int k m)):=by rw[List.getElem?_map,e1,hm2];rfl
       rw[hx.1,List.getElem?_map] at hy;have hn:ns[i]?=some (ns[i]'(by omega)):=List.getElem?_eq_getElem (by omega);rw[hn] at hy;simp only[Option.map_some,Option.some.injEq,DataW.lit.injEq,Lit.int.injEq,true_and] at hy;rw[List.getElem?_eq_getElem (by omega:i<cs.length),hm1,List.getElem?_map,hn,Option.map_some,hy]
     . rw[List.getElem?_eq_none (by omega),List.getElem?_eq_none (by rw[List.length_map];omega)]
   . cases h
theorem z13x (S:Hp)(k:IntKind):∀ ns:List Int,All (Rd S (.int k)) ns (ns.map fun i=>.int k i)
 | []=>rfl
 | x::r=>⟨[.int k x],_,rfl,rfl,z13x S k r⟩
end
end Go.Proofs.YtkkkgfmjjkpjdaaGreatDoorPx
set_option linter.all false
namespace Go.Proofs.YtkkkgfmjjkpjdaaGreatDoorPx
noncomputable section
open Go Go.Lift
theorem z1fj {P:Program} {w:World} {base:Nat} {sp:Nat->Bool} {held:Bool} {fuel:Nat} {e:TypeId} {f0 f1:Field} {k:IntKind} {a b:Int} {cs:List Value} {p:List MemPlace}
 (he:P.underlying e=some (.struct #[f0,f1])) (h0:P.underlying f0.type=some (.int k)) (h1:P.underlying f1.type=some (.int k)) (o0:f0.offset=0) (o1:f1.offset=1) (c0:P.cellsOf f0.type=1) (c1:P.cellsOf f1.type=1) (ce:P.cellsOf e=2)
 (h:DataW.trod (fun _=>()) P w base sp held fuel e cs=some (.agg [.lit (.int k a),.lit (.int k b)],p)):cs=[.int k a,.int k b]:=by
 cases fuel with
 | zero=>simp[DataW.trod] at h
 | succ fuel =>
   simp only[DataW.trod,he,ce] at h;split at h
   . rename_i hl;obtain⟨x,y,rfl⟩:∃ x y,cs=[x,y]:=by
      match cs,hl with
      | [x,y],_=>exact⟨x,y,rfl⟩
     simp only[o0,o1,c0,c1,List.mapM_cons,List.mapM_nil,Option.map_eq_some_iff,Option.bind_eq_bind,Option.bind_eq_some_iff,Option.pure_def,Option.some.injEq,List.drop_zero,List.drop_succ_cons,List.take_succ_cons,List.take_zero] at h;obtain⟨xs,⟨y0,g0,_,⟨y1,g1,_,rfl,rfl⟩,rfl⟩,hx⟩:=h;obtain⟨n0,rfl,rfl⟩:=zq0 h0 g0;obtain⟨n1,rfl,rfl⟩:=zq0 h1 g1;simp at hx;obtain⟨⟨rfl,rfl⟩,_⟩:=hx;rfl
   . cases h
abbrev z1s7 (k:IntKind):T:=.pair (.int k) (.pair (.int k) .unit)
end
end Go.Proofs.YtkkkgfmjjkpjdaaGreatDoorPx
set_option linter.all false
namespace Go.Proofs.YtkkkgfmjjkpjdaaGreatDoorPx
noncomputable section
open Go Go.Lift
theorem z1h2 {P:Program}{w:World}{base:Nat}{sp:Nat->Bool}{held:Bool}{fuel:Nat}{t:TypeId}{c:Value}{s:List UInt8}{p:List MemPlace}
 (ht:P.underlying t=some .string) (h:DataW.trod (fun _=>()) P w base sp held fuel t [c]=some (.lit (.string s),p)):c=.string ⟨⟨s⟩⟩:=by
 cases fuel with
 | zero=>simp[DataW.trod] at h
 | succ fuel =>
   cases c<;>simp[DataW.trod,ht] at h
   obtain⟨_,h,_⟩:=h;subst h;rfl
end
end Go.Proofs.YtkkkgfmjjkpjdaaGreatDoorPx
set_option linter.all false
namespace Go.Proofs.YtkkkgfmjjkpjdaaGreatDoorPx
noncomputable section
open Go Go.Lift
def z15l (P:Program)(W:World)(l:List (String×DataW Unit)):Prop:=∃ ps,DataW.LaidVars P W l ps/\∀ b off,MemPlace.cell b off∈ps->∀ u v,W.cell? ⟨b,off,none⟩=some (.iface u v)->Value.okWide P W .any 0 u v
theorem z1px {P:Program}{W:World}{l:List (String×DataW Unit)}(h:laidMet P l W):z15l P W l:=by
 obtain⟨ps,h1,_,h3⟩:=h;exact⟨ps,h1,fun b off hb=>(h3 b off hb).2⟩
theorem zvn {P:Program}{W:World}{name:String}{d:DataW Unit}{r:List (String×DataW Unit)}{g:Nat}{t:TypeId}(hg:P.globalNamed name=some g)(hty:(P.globals[g]?).map (·.type)=some t)(h:z15l P W ((name,d)::r)) :
 (∃ cs t2 fr fuel p,W.heap[g]?=some (.cells cs t2 fr)/\DataW.trod (fun _=>()) P W 0 (fun _=>true) false fuel t cs.toList=some (d,p)/\∀ u v,cs.toList=[.iface u v]->Value.okWide P W .any 0 u v)/\z15l P W r:=by
 obtain⟨ps,⟨g',t',cs,fuel,p,q,e1,e2,e3,e4,e5,rfl⟩,hok⟩:=h;obtain rfl:=Option.some.inj (hg.symm.trans e1);obtain rfl:=Option.some.inj (hty.symm.trans e2);refine⟨?_,q,e5,fun b off hb=>hok b off (by simp[hb])⟩;simp only[World.var?,hg,Option.bind_some] at e3;split at e3
 case h_2=>cases e3
 rename_i cs' t2 fr hh;simp only[Option.some.injEq] at e3;subst e3;refine⟨cs',t2,fr,fuel,p,hh,e4,fun u v hc=>?_⟩;have hcs:cs'=#[.iface u v]:=by apply Array.toList_inj.1;rw[hc]
 subst hcs;refine hok g 0 (by simp[MemPlace.row]) u v ?_;simp[World.cell?,hh]
theorem z1cu {P:Program}{W:World}{name:String}{d:DataW Unit}{r:List (String×DataW Unit)}(h:z15l P W ((name,d)::r)):z15l P W r:=by
 obtain⟨ps,⟨g',t',cs,fuel,p,q,e1,e2,e3,e4,e5,rfl⟩,hok⟩:=h;exact⟨q,e5,fun b off hb=>hok b off (by simp[hb])⟩
theorem z17r {W:World}{g:Nat}{T0:T}{x:T0.den}{cs:Array Value}{t2:TypeId}{fr:Nat×Nat}(hh:W.heap[g]?=some (.cells cs t2 fr))(h:Rd (hp W) T0 x cs.toList) :
 VR (hp W) (.ptr T0) x (.pointer (some ⟨g,0,none⟩))/\∃ cs E fr,hp W g=some (.cells cs E fr)/\Rd (hp W) T0 x cs.toList :=
 ⟨VR.of_one rfl ⟨g,0,cs.toList,rfl,⟨cs,t2,fr,[],[],hh,by simp,rfl⟩,h⟩,cs,t2,fr,hh,h⟩
theorem z1ft {P:Program}{W:World}{name:String}{g:Nat}{t e:TypeId}{k:IntKind}{n:Nat}{ns:List Int}{r:List (String×DataW Unit)}
 (hg:P.globalNamed name=some g) (hty:(P.globals[g]?).map (·.type)=some t) (ht:P.underlying t=some (.array n e)) (he:P.underlying e=some (.int k)) (hc:P.cellsOf e=1) (hct:P.cellsOf t=n)
 (h:z15l P W ((name,.agg (ns.map fun i=>.lit (.int k i)))::r)) :
 (VR (hp W) (.ptr (.arr n (.int k))) ns (.pointer (some ⟨g,0,none⟩))/\∃ cs E fr,hp W g=some (.cells cs E fr)/\Rd (hp W) (.arr n (.int k)) ns cs.toList)/\z15l P W r:=by
 obtain⟨⟨cs,t2,fr,fuel,p,hh,e4,_⟩,hr⟩:=zvn hg hty h;obtain⟨h1,h2⟩:=z1fx ht he hc hct e4;refine⟨z17r hh ?_,hr⟩;rw[h1];exact⟨h2,z13x _ _ _⟩
theorem z15p {P:Program}{w:World}{base:Nat}{sp:Nat->Bool}{held:Bool}{fuel:Nat}{t e:TypeId}{n m:Nat}{cs:List Value}{α:Type}{l:List α}{f:α->DataW Unit}{gv:α->List Value}{p:List MemPlace}
 (ht:P.underlying t=some (.array n e)) (ce:P.cellsOf e=m) (hm0:0<m) (ct:P.cellsOf t=m*n) (hone:∀ fuel x c p,DataW.trod (fun _=>()) P w base sp held fuel e c=some (f x,p)->c=gv x)
 (h:DataW.trod (fun _=>()) P w base sp held fuel t cs=some (.agg (l.map f),p)):l.length=n/\cs.length=m*n/\∀ i,(hi:i<l.length)->(cs.drop (i*m)).take m=gv l[i]:=by
 cases fuel with
 | zero=>simp[DataW.trod] at h
 | succ fuel =>
   simp only[DataW.trod,ht,ce,ct] at h;split at h
   case isFalse=>cases h
   rename_i hlen;simp only[Option.map_eq_some_iff] at h;obtain⟨xs,hm,hx⟩:=h;obtain⟨m1,m2⟩:=z1a0 hm;simp only[Prod.mk.injEq,DataW.agg.injEq] at hx;have hl:l.length=n:=by
    have:=congrArg List.length hx.1;simp only[List.length_map,List.length_range] at this m1;omega
   refine⟨hl,hlen,fun i hi=>?_⟩;obtain⟨y,y1,y2⟩:=m2 i (by simp;omega);simp only[List.getElem_range] at y2;have hy:(xs.map (·.1))[i]?=some y.1:=by rw[List.getElem?_map,y1];rfl
   rw[hx.1,List.getElem?_map,List.getElem?_eq_getElem hi,Option.map_some,Option.some.injEq] at hy;obtain⟨y0,yp⟩:=y;dsimp only at hy;subst hy;exact hone _ _ _ _ y2
theorem z1el (S:Hp){t:T}{gv:t.den->List Value}{m:Nat}(hg:∀ x,Rd S t x (gv x)):∀ (l:List t.den) (cs:List Value),cs.length=m*l.length->(∀ i,(h:i<l.length)->(cs.drop (i*m)).take m=gv l[i])->All (Rd S t) l cs
 | [],cs,hl,_=>List.length_eq_zero_iff.1 (by simpa using hl)
 | x :: r,cs,hl,h=>by
   refine⟨cs.take m,cs.drop m,(List.take_append_drop m cs).symm,?_,z1el (m:=m) S hg r (cs.drop m) (by simp only[List.length_cons,List.length_drop,Nat.mul_succ] at hl ⊢;omega) fun i hi=>?_⟩
   . have:=h 0 (by simp);simp only[Nat.zero_mul,List.drop_zero,List.getElem_cons_zero] at this;rw[this];exact hg x
   . have:=h (i+1) (by simpa using hi);simp only[List.getElem_cons_succ] at this;rw[List.drop_drop,show m+i*m=(i+1)*m by rw[Nat.succ_mul];omega];exact this
theorem z1l4 {P:Program}{W:World}{name:String}{g:Nat}{t e:TypeId}{f0 f1:Field}{k:IntKind}{n:Nat}{l:List (Int×(Int×Unit))}{r:List (String×DataW Unit)}
 (hg:P.globalNamed name=some g) (hty:(P.globals[g]?).map (·.type)=some t) (ht:P.underlying t=some (.array n e)) (he:P.underlying e=some (.struct #[f0,f1])) (h0:P.underlying f0.type=some (.int k)) (h1:P.underlying f1.type=some (.int k)) (o0:f0.offset=0) (o1:f1.offset=1) (c0:P.cellsOf f0.type=1) (c1:P.cellsOf f1.type=1) (ce:P.cellsOf e=2) (ct:P.cellsOf t=2*n)
 (h:z15l P W ((name,.agg (l.map fun x=>.agg [.lit (.int k x.1),.lit (.int k x.2.1)]))::r)) :
 (VR (hp W) (.ptr (.arr n (z1s7 k))) l (.pointer (some ⟨g,0,none⟩))/\∃ cs E fr,hp W g=some (.cells cs E fr)/\Rd (hp W) (.arr n (z1s7 k)) l cs.toList)/\z15l P W r:=by
 obtain⟨⟨cs,t2,fr,fuel,p,hh,e4,_⟩,hr⟩:=zvn hg hty h;obtain⟨h2,h3,h4⟩:=z15p (gv:=fun x:Int×(Int×Unit)=>[Value.int k x.1,Value.int k x.2.1]) ht ce (by omega) ct (fun _ _ _ _ hq=>z1fj he h0 h1 o0 o1 c0 c1 ce hq) e4;exact⟨z17r hh ⟨h2,z1el (t:=z1s7 k) _ (fun x=>⟨[_],[_],rfl,rfl,[_],[],rfl,rfl,rfl⟩) l _ (by omega) h4⟩,hr⟩
theorem zno {P:Program}{w:World}{base:Nat}{sp:Nat->Bool}{held:Bool}{fuel:Nat}{t:TypeId}{c:Value}{b:Bool}{p:List MemPlace}
 (ht:P.underlying t=some .bool) (h:DataW.trod (fun _=>()) P w base sp held fuel t [c]=some (.lit (.bool b),p)):c=.bool b:=by
 cases fuel with
 | zero=>simp[DataW.trod] at h
 | succ fuel =>
   cases c<;>simp[DataW.trod,ht] at h
   obtain⟨h,_⟩:=h;subst h;rfl
abbrev formsT:T:=.pair .str (.pair (.int .i64) (.pair .bool (.pair .bool (.pair .bool (.pair .bool .unit)))))
abbrev z1q3 (x:formsT.den):List Value:=[.string ⟨⟨x.1⟩⟩,.int .i64 x.2.1,.bool x.2.2.1,.bool x.2.2.2.1,.bool x.2.2.2.2.1,.bool x.2.2.2.2.2.1]
abbrev z1q4 (x:formsT.den):DataW Unit:=.agg [.lit (.string x.1),.lit (.int .i64 x.2.1),.lit (.bool x.2.2.1),.lit (.bool x.2.2.2.1),.lit (.bool x.2.2.2.2.1),.lit (.bool x.2.2.2.2.2.1)]
theorem z1g1 {P:Program}{w:World}{base:Nat}{sp:Nat->Bool}{held:Bool}{fuel:Nat}{e:TypeId}{f0 f1 f2 f3 f4 f5:Field}{x:formsT.den}{cs:List Value}{p:List MemPlace}
 (he:P.underlying e=some (.struct #[f0,f1,f2,f3,f4,f5])) (h0:P.underlying f0.type=some .string) (h1:P.underlying f1.type=some (.int .i64)) (h2:P.underlying f2.type=some .bool) (h3:P.underlying f3.type=some .bool) (h4:P.underlying f4.type=some .bool) (h5:P.underlying f5.type=some .bool)
 (o0:f0.offset=0) (o1:f1.offset=1) (o2:f2.offset=2) (o3:f3.offset=3) (o4:f4.offset=4) (o5:f5.offset=5) (c0:P.cellsOf f0.type=1) (c1:P.cellsOf f1.type=1) (c2:P.cellsOf f2.type=1) (c3:P.cellsOf f3.type=1) (c4:P.cellsOf f4.type=1) (c5:P.cellsOf f5.type=1) (ce:P.cellsOf e=6)
 (h:DataW.trod (fun _=>()) P w base sp held fuel e cs=some (z1q4 x,p)):cs=z1q3 x:=by
 cases fuel with
 | zero=>simp[DataW.trod] at h
 | succ fuel =>
   simp only[DataW.trod,he,ce] at h;split at h
   case isFalse=>cases h
   rename_i hl;obtain⟨a0,a1,a2,a3,a4,a5,rfl⟩:∃ a0 a1 a2 a3 a4 a5,cs=[a0,a1,a2,a3,a4,a5]:=by
    match cs,hl with
    | [a0,a1,a2,a3,a4,a5],_=>exact⟨a0,a1,a2,a3,a4,a5,rfl⟩
   simp only[o0,o1,o2,o3,o4,o5,c0,c1,c2,c3,c4,c5,List.mapM_cons,List.mapM_nil,Option.map_eq_some_iff,Option.bind_eq_bind,Option.bind_eq_some_iff,Option.pure_def,Option.some.injEq,List.drop_zero,List.drop_succ_cons,List.take_succ_cons,List.take_zero] at h;obtain⟨xs,⟨⟨y0,z0⟩,g0,_,⟨⟨y1,z1⟩,g1,_,⟨⟨y2,z2⟩,g2,_,⟨⟨y3,z3⟩,g3,_,⟨⟨y4,z4⟩,g4,_,⟨⟨y5,z5⟩,g5,_,rfl,rfl⟩,rfl⟩,rfl⟩,rfl⟩,rfl⟩,rfl⟩,hx⟩:=h;simp only[List.map_cons,List.map_nil,Prod.mk.injEq,DataW.agg.injEq,List.cons.injEq,and_true] at hx;obtain⟨⟨rfl,rfl,rfl,rfl,rfl,rfl⟩,_⟩:=hx;obtain⟨n1,rfl,hn1⟩:=zq0 h1 g1;simp only[Prod.mk.injEq,DataW.lit.injEq,Lit.int.injEq,true_and] at hn1;rw[z1h2 h0 g0,zno h2 g2,zno h3 g3,zno h4 g4,zno h5 g5,<- hn1.1]
theorem z1l5 {P:Program}{W:World}{name:String}{g:Nat}{t e:TypeId}{f0 f1 f2 f3 f4 f5:Field}{n:Nat}{l:List formsT.den}{r:List (String×DataW Unit)}
 (hg:P.globalNamed name=some g) (hty:(P.globals[g]?).map (·.type)=some t) (ht:P.underlying t=some (.array n e)) (he:P.underlying e=some (.struct #[f0,f1,f2,f3,f4,f5])) (h0:P.underlying f0.type=some .string) (h1:P.underlying f1.type=some (.int .i64)) (h2:P.underlying f2.type=some .bool) (h3:P.underlying f3.type=some .bool) (h4:P.underlying f4.type=some .bool) (h5:P.underlying f5.type=some .bool)
 (o0:f0.offset=0) (o1:f1.offset=1) (o2:f2.offset=2) (o3:f3.offset=3) (o4:f4.offset=4) (o5:f5.offset=5) (c0:P.cellsOf f0.type=1) (c1:P.cellsOf f1.type=1) (c2:P.cellsOf f2.type=1) (c3:P.cellsOf f3.type=1) (c4:P.cellsOf f4.type=1) (c5:P.cellsOf f5.type=1) (ce:P.cellsOf e=6) (ct:P.cellsOf t=6*n)
 (h:z15l P W ((name,.agg (l.map z1q4))::r)) :
 (VR (hp W) (.ptr (.arr n formsT)) l (.pointer (some ⟨g,0,none⟩))/\∃ cs E fr,hp W g=some (.cells cs E fr)/\Rd (hp W) (.arr n formsT) l cs.toList)/\z15l P W r:=by
 obtain⟨⟨cs,t2,fr,fuel,p,hh,e4,_⟩,hr⟩:=zvn hg hty h;obtain⟨h2,h3,h4⟩:=z15p (gv:=z1q3) ht ce (by omega) ct (fun _ _ _ _ hq=>z1g1 he h0 h1 h2 h3 h4 h5 o0 o1 o2 o3 o4 o5 c0 c1 c2 c3 c4 c5 ce hq) e4;exact⟨z17r hh ⟨h2,z1el (t:=formsT) (gv:=z1q3) _ (fun x=>⟨[_],[_,_,_,_,_],rfl,rfl,[_],[_,_,_,_],rfl,rfl,[_],[_,_,_],rfl,rfl,[_],[_,_],rfl,rfl,[_],[_],rfl,rfl,[_],[],rfl,rfl,rfl⟩) l _ (by omega) h4⟩,hr⟩
theorem z1jm {P:Program}{W:World}{name nm:String}{g:Nat}{ti tp te ts:TypeId}{ms:Array (String×TypeId)}{f:Field}{text:List UInt8}{r:List (String×DataW Unit)}
 (hg:P.globalNamed name=some g) (hty:(P.globals[g]?).map (·.type)=some ti) (hi:P.underlying ti=some (.interface ms)) (hrow:∀ u,P.typeName? 3 u=some nm->u=tp)
 (hp':P.underlying tp=some (.pointer te)) (he:P.underlying te=some (.struct #[f])) (hft:f.type=ts) (hfo:f.offset=0) (hs:P.underlying ts=some .string) (hc:P.cellsOf te=1) (hcs:P.cellsOf ts=1)
 (h:z15l P W ((name,.iface nm (.ptr (.agg [.lit (.string text)])))::r)) :
 (VR (hp W) (.ptr (.ifc tp .any)) (some ()) (.pointer (some ⟨g,0,none⟩))/\∃ cs E fr,hp W g=some (.cells cs E fr)/\Rd (hp W) (.ifc tp .any) (some ()) cs.toList)/\z15l P W r:=by
 obtain⟨⟨cs,t2,fr,fuel,p,hh,e4,hok⟩,hr⟩:=zvn hg hty h;obtain⟨a,s,h1,_⟩:=errorString_of_trod hi hrow hp' he hft hfo hs hc hcs e4 hok;refine⟨z17r hh ?_,hr⟩;rw[h1];exact .inr ⟨(),_,rfl,rfl,.inr ⟨rfl,_,rfl,rfl⟩⟩
end
end Go.Proofs.YtkkkgfmjjkpjdaaGreatDoorPx
