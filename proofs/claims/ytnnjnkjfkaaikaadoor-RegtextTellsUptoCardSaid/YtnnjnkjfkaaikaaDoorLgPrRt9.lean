import Derived.Test.YtnnjnkjfkaaikaaDoorRows
import Derived.Test.YtnnjnkjfkaaikaaDoorLgPrRt8
import Derived.Test.YtnnjnkjfkaaikaaDoorLgPrRt7
import Derived.LaidLaws
set_option linter.all false
namespace Go.Proofs.YtnnjnkjfkaaikaaDoorLg
noncomputable section
open Go Go.Lift Go.Proofs.YtnnjnkjfkaaikaaDoorPx Go.RowKit Go.WideShapes Go.Proofs.YtnnjnkjfkaaikaaDoor
theorem zpk {H:Type}{d:DataW H}:∀ {l:List (DataW H)},d∈l->Rows.uptoBulk d<=Rows.uptoBulkAll l
 | x::r,h=>by
   simp only[Rows.uptoBulkAll];rcases List.mem_cons.1 h with rfl|h
   . omega
   . have:=zpk h;omega
theorem zv6 {H:Type}:∀ (ks:List Tree) (ds:List (DataW H)),ks.length=ds.length->(∀ i,(h:i<ks.length)->(h':i<ds.length)->z23 ks[i]<=Rows.uptoBulk ds[i])->zap ks<=Rows.uptoBulkAll ds
 | [],[],_,_=>by rw[zap];omega
 | k::ks,d::ds,hl,h=>by
   have h0:=h 0 (by simp) (by simp);have hr:=zv6 ks ds (by simpa using hl) (fun i hi hi'=>by have:=h (i+1) (by simpa using hi) (by simpa using hi');simpa using this);simp only[List.getElem_cons_zero] at h0;rw[zap];simp only[Rows.uptoBulkAll];omega
theorem zzc {H:Type} {enc:TypeId×Value->H} {P:Program} {w:World} {base:Nat} {spare:Nat->Bool} {held:Bool} {t:TypeId} {fs:Array Field} (ht:P.underlying t=some (.struct fs)) {f:Field} (hf:fs[2]?=some f) (hfo:f.offset=5) (hfc:P.cellsOf f.type=1) (hk:P.underlying f.type=some (.slice t)) (hs:P.cellsOf t=8) :
 ∀ (fuel:Nat) (y:Tree) (cs:List Value) (x:DataW H×List MemPlace),RdN (hp w) y cs->DataW.trod enc P w base spare held fuel t cs=some x->z23 y<=Rows.uptoBulk x.1
 | 0,y,cs,x,hr,h=>by simp[DataW.trod] at h
 | fuel+1,.mk k st ks lo hi,cs,x,hr,h=>by
   obtain⟨xs,n,e,rfl,hl,hxl,heach⟩:=DataW.trod_struct ht h;obtain rfl:fuel=n:=by omega
   rw[RdN] at hr;obtain⟨a,cap,rfl,hst,hcap,hks⟩:=hr;have h2:=heach 2 f hf;rw[hfo,hfc] at h2;have hsz:2<fs.size:=by
    rcases Nat.lt_or_ge 2 fs.size with h|h
    . exact h
    . rw[Array.getElem?_eq_none h] at hf;cases hf
   have hcell:(List.drop 5 (Value.int .i64 k::(st.map (Value.int .u64)++[.slice a ks.length cap,.int .i64 lo,.int .i64 hi]))).take 1=[.slice a ks.length cap]:=by
    obtain⟨a1,a2,a3,a4,rfl⟩:∃ a1 a2 a3 a4,st=[a1,a2,a3,a4]:=by
     match st,hst with
     | [a1,a2,a3,a4],_=>exact⟨a1,a2,a3,a4,rfl⟩
    rfl
   rw[hcell,List.getElem?_eq_getElem (by omega)] at h2;have hb:Rows.uptoBulk (xs[2]'(by omega)).1<=Rows.uptoBulkAll (xs.map (·.1)):=zpk (List.mem_map.2 ⟨_,List.getElem_mem _,rfl⟩);have hx0:Rows.uptoBulk (DataW.agg (xs.map (·.1)))=Rows.uptoBulkAll (xs.map (·.1))+1:=by simp only[Rows.uptoBulk]
   show z23 (.mk k st ks lo hi)<=Rows.uptoBulk (DataW.agg (xs.map (·.1)));rw[hx0,z23];rcases DataW.trod_slice hk h2 with⟨e1,_⟩|⟨a',len,cap',elems,rest,n',rfl,e1,e2,_,_,_,hel,he,_⟩
   . injection e1 with e1 _;injection e1 with _ e1 _;have:ks=[]:=List.eq_nil_of_length_eq_zero e1;subst this;rw[zap];omega
   . injection e1 with e1 _;injection e1 with ea el _;subst el;rw[e2] at hb;have hb2:Rows.uptoBulk (DataW.slice (elems.map (·.1)) (rest.map (·.1)))=Rows.uptoBulkAll (elems.map (·.1))+Rows.uptoBulkAll (rest.map (·.1))+1:=by simp only[Rows.uptoBulk]
     dsimp only at hb;rw[hb2] at hb
     suffices zap ks<=Rows.uptoBulkAll (elems.map (·.1)) by omega
     refine zv6 ks _ (by rw[List.length_map,hel]) (fun i hi hi2=>?_);rcases hks with rfl|⟨b,off,c1,e3,hlies,hrd⟩
     . simp at hi
     . have hki:=zug hrd hi;have hi':=he i hi;rw[List.getElem?_eq_getElem (by omega)] at hi';obtain⟨cs,hcs,htr⟩:=Option.bind_eq_some_iff.1 hi';rw[hs] at hcs;obtain⟨_,hcl,hcc⟩:=World.cells?_some hcs;obtain rfl:a'=⟨b,off,none⟩:=by rw[ea] at e3;exact Option.some.inj e3
       have ec:cs=(c1.drop (i*8)).take 8:=by
        apply List.ext_getElem?;intro j;rcases Nat.lt_or_ge j 8 with hj|hj
        . have h5:=hcc j hj;rw[add_plain,add_plain] at h5;rw[<- h5,List.getElem?_take_of_lt hj,List.getElem?_drop,List.getElem?_eq_getElem (show i*8+j<c1.length by omega),Nat.add_assoc];exact zae hlies (List.getElem?_eq_getElem (by omega))
        . rw[List.getElem?_eq_none (by omega),List.getElem?_eq_none (by rw[List.length_take];omega)]
       rw[List.getElem_map];exact zzc ht hf hfo hfc hk hs n' ks[i] cs _ (by rw[ec];exact hki.1) htr
theorem z10w {H:Type}{enc:TypeId×Value->H}{P:Program}{w:World}{base:Nat}{spare:Nat->Bool}{held:Bool}{t:TypeId}(h:nodB P t=true)
 {us:List T} {x:zw (z9h (NodT::us))} {args:List Value} (hx:ArgsRel (hp w) (hp w) (mkS (z9h (NodT::us)) 0 x) args (fun _=>[])) {ts:List TypeId} {ds gs:List (DataW H)} {ps:List MemPlace} (hd:DataW.TrodAll enc P w base spare held (t::ts) args ds ps) (hq:Rows.uptoSmall H (ds++gs)=true):z23 (foN x.1)<=2000000:=by
 obtain⟨fs,f,h1,h2,h3,h4,h5,h6,h7⟩:=z19g h;obtain⟨v0,vs0,d0,ds0,p0,q0,rfl,rfl,rfl,h0,r0⟩:=Go.ChangeShapes.trodAll_cons hd;have hb:Rows.uptoBulkAll (d0::ds0++gs)<=1048576:=of_decide_eq_true hq;have hb1:Rows.uptoBulk d0<=Rows.uptoBulkAll (d0::ds0++gs):=zpk (by simp);obtain⟨⟨v',e1,hv⟩,_⟩:=hx.rel 0 (.v NodT x.1) rfl;obtain rfl:v0=v':=Option.some.inj e1;obtain⟨cs,rfl,hr⟩:VR (hp w) NodT x.1 v0:=hv.1;obtain⟨fuel,hf'⟩:=h0;have hb2:z23 (foN x.1)<=Rows.uptoBulk d0:=zzc h1 h2 h3 h4 h5 h6 fuel (foN x.1) _ _ ((zrq (foN x.1) _).2 (by rw[z11v];exact hr)) hf';omega
end
end Go.Proofs.YtnnjnkjfkaaikaaDoorLg
set_option linter.all false
namespace Go.Proofs.YtnnjnkjfkaaikaaDoorPx
noncomputable section
open Go Go.Lift
theorem zvn {P:Program}{w:World}{base:Nat}{sp:Nat->Bool}{held:Bool}{fuel:Nat}{t:TypeId}{c:Value}{s:List UInt8}{p:List MemPlace}
 (ht:P.underlying t=some .string) (h:DataW.trod (fun _=>()) P w base sp held fuel t [c]=some (.lit (.string s),p)):c=.string ⟨⟨s⟩⟩:=by
 cases fuel with
 | zero=>simp[DataW.trod] at h
 | succ fuel =>
   cases c<;>simp[DataW.trod,ht] at h
   obtain⟨_,h,_⟩:=h;subst h;rfl
theorem zwo {P:Program} {w:World} {base:Nat} {sp:Nat->Bool} {held:Bool} {fuel:Nat} {e:TypeId} {f0 f1 f2:Field} {k:IntKind} {a b:Int} {s:List UInt8} {cs:List Value} {p:List MemPlace}
 (he:P.underlying e=some (.struct #[f0,f1,f2])) (h0:P.underlying f0.type=some (.int k)) (h1:P.underlying f1.type=some (.int k)) (h2:P.underlying f2.type=some .string) (o0:f0.offset=0) (o1:f1.offset=1) (o2:f2.offset=2) (c0:P.cellsOf f0.type=1) (c1:P.cellsOf f1.type=1) (c2:P.cellsOf f2.type=1) (ce:P.cellsOf e=3)
 (h:DataW.trod (fun _=>()) P w base sp held fuel e cs=some (.agg [.lit (.int k a),.lit (.int k b),.lit (.string s)],p)):cs=[.int k a,.int k b,.string ⟨⟨s⟩⟩]:=by
 cases fuel with
 | zero=>simp[DataW.trod] at h
 | succ fuel =>
   simp only[DataW.trod,he,ce] at h;split at h
   . rename_i hl;obtain⟨x,y,z,rfl⟩:∃ x y z,cs=[x,y,z]:=by
      match cs,hl with
      | [x,y,z],_=>exact⟨x,y,z,rfl⟩
     simp only[o0,o1,o2,c0,c1,c2,List.mapM_cons,List.mapM_nil,Option.map_eq_some_iff,Option.bind_eq_bind,Option.bind_eq_some_iff,Option.pure_def,Option.some.injEq,List.drop_zero,List.drop_succ_cons,List.take_succ_cons,List.take_zero] at h;obtain⟨xs,⟨y0,g0,_,⟨y1,g1,_,⟨y2,g2,_,rfl,rfl⟩,rfl⟩,rfl⟩,hx⟩:=h;obtain⟨n0,rfl,rfl⟩:=zki h0 g0;obtain⟨n1,rfl,rfl⟩:=zki h1 g1;simp at hx;obtain⟨⟨rfl,rfl,h3⟩,_⟩:=hx;obtain⟨y2a,y2b⟩:=y2;dsimp only at h3;subst h3;rw[zvn h2 g2]
   . cases h
abbrev iisT (k:IntKind):T:=.pair (.int k) (.pair (.int k) (.pair .str .unit))
end
end Go.Proofs.YtnnjnkjfkaaikaaDoorPx
set_option linter.all false
namespace Go.Proofs.YtnnjnkjfkaaikaaDoorPx
noncomputable section
open Go Go.Lift
def ztc (P:Program)(W:World)(l:List (String×DataW Unit)):Prop:=∃ ps,DataW.LaidVars P W l ps/\∀ b off,MemPlace.cell b off∈ps->∀ u v,W.cell? ⟨b,off,none⟩=some (.iface u v)->Value.okWide P W .any 0 u v
theorem z161 {P:Program}{W:World}{l:List (String×DataW Unit)}(h:laidMet P l W):ztc P W l:=by
 obtain⟨ps,h1,_,h3⟩:=h;exact⟨ps,h1,fun b off hb=>(h3 b off hb).2⟩
theorem zrc {P:Program}{W:World}{name:String}{d:DataW Unit}{r:List (String×DataW Unit)}{g:Nat}{t:TypeId}(hg:P.globalNamed name=some g)(hty:(P.globals[g]?).map (·.type)=some t)(h:ztc P W ((name,d)::r)) :
 (∃ cs t2 fr fuel p,W.heap[g]?=some (.cells cs t2 fr)/\DataW.trod (fun _=>()) P W 0 (fun _=>true) false fuel t cs.toList=some (d,p)/\∀ u v,cs.toList=[.iface u v]->Value.okWide P W .any 0 u v)/\ztc P W r:=by
 obtain⟨ps,⟨g',t',cs,fuel,p,q,e1,e2,e3,e4,e5,rfl⟩,hok⟩:=h;obtain rfl:=Option.some.inj (hg.symm.trans e1);obtain rfl:=Option.some.inj (hty.symm.trans e2);refine⟨?_,q,e5,fun b off hb=>hok b off (by simp[hb])⟩;simp only[World.var?,hg,Option.bind_some] at e3;split at e3
 case h_2=>cases e3
 rename_i cs' t2 fr hh;simp only[Option.some.injEq] at e3;subst e3;refine⟨cs',t2,fr,fuel,p,hh,e4,fun u v hc=>?_⟩;have hcs:cs'=#[.iface u v]:=by apply Array.toList_inj.1;rw[hc]
 subst hcs;refine hok g 0 (by simp[MemPlace.row]) u v ?_;simp[World.cell?,hh]
theorem zrb {P:Program}{W:World}{name:String}{d:DataW Unit}{r:List (String×DataW Unit)}(h:ztc P W ((name,d)::r)):ztc P W r:=by
 obtain⟨ps,⟨g',t',cs,fuel,p,q,e1,e2,e3,e4,e5,rfl⟩,hok⟩:=h;exact⟨q,e5,fun b off hb=>hok b off (by simp[hb])⟩
theorem zz4 {W:World}{g:Nat}{T0:T}{x:T0.den}{cs:Array Value}{t2:TypeId}{fr:Nat×Nat}(hh:W.heap[g]?=some (.cells cs t2 fr))(h:Rd (hp W) T0 x cs.toList) :
 VR (hp W) (.ptr T0) x (.pointer (some ⟨g,0,none⟩))/\∃ cs E fr,hp W g=some (.cells cs E fr)/\Rd (hp W) T0 x cs.toList :=
 ⟨VR.of_one rfl ⟨g,0,cs.toList,rfl,⟨cs,t2,fr,[],[],hh,by simp,rfl⟩,h⟩,cs,t2,fr,hh,h⟩
theorem z13d {P:Program}{W:World}{name:String}{g:Nat}{t e:TypeId}{k:IntKind}{n:Nat}{ns:List Int}{r:List (String×DataW Unit)}
 (hg:P.globalNamed name=some g) (hty:(P.globals[g]?).map (·.type)=some t) (ht:P.underlying t=some (.array n e)) (he:P.underlying e=some (.int k)) (hc:P.cellsOf e=1) (hct:P.cellsOf t=n)
 (h:ztc P W ((name,.agg (ns.map fun i=>.lit (.int k i)))::r)) :
 (VR (hp W) (.ptr (.arr n (.int k))) ns (.pointer (some ⟨g,0,none⟩))/\∃ cs E fr,hp W g=some (.cells cs E fr)/\Rd (hp W) (.arr n (.int k)) ns cs.toList)/\ztc P W r:=by
 obtain⟨⟨cs,t2,fr,fuel,p,hh,e4,_⟩,hr⟩:=zrc hg hty h;obtain⟨h1,h2⟩:=zui ht he hc hct e4;refine⟨zz4 hh ?_,hr⟩;rw[h1];exact⟨h2,zls _ _ _⟩
theorem ztu {P:Program}{w:World}{base:Nat}{sp:Nat->Bool}{held:Bool}{fuel:Nat}{t e:TypeId}{n m:Nat}{cs:List Value}{α:Type}{l:List α}{f:α->DataW Unit}{gv:α->List Value}{p:List MemPlace}
 (ht:P.underlying t=some (.array n e)) (ce:P.cellsOf e=m) (hm0:0<m) (ct:P.cellsOf t=m*n) (hone:∀ fuel x c p,DataW.trod (fun _=>()) P w base sp held fuel e c=some (f x,p)->c=gv x)
 (h:DataW.trod (fun _=>()) P w base sp held fuel t cs=some (.agg (l.map f),p)):l.length=n/\cs.length=m*n/\∀ i,(hi:i<l.length)->(cs.drop (i*m)).take m=gv l[i]:=by
 cases fuel with
 | zero=>simp[DataW.trod] at h
 | succ fuel =>
   simp only[DataW.trod,ht,ce,ct] at h;split at h
   case isFalse=>cases h
   rename_i hlen;simp only[Option.map_eq_some_iff] at h;obtain⟨xs,hm,hx⟩:=h;obtain⟨m1,m2⟩:=zp3 hm;simp only[Prod.mk.injEq,DataW.agg.injEq] at hx;have hl:l.length=n:=by
    have:=congrArg List.length hx.1;simp only[List.length_map,List.length_range] at this m1;omega
   refine⟨hl,hlen,fun i hi=>?_⟩;obtain⟨y,y1,y2⟩:=m2 i (by simp;omega);simp only[List.getElem_range] at y2;have hy:(xs.map (·.1))[i]?=some y.1:=by rw[List.getElem?_map,y1];rfl
   rw[hx.1,List.getElem?_map,List.getElem?_eq_getElem hi,Option.map_some,Option.some.injEq] at hy;obtain⟨y0,yp⟩:=y;dsimp only at hy;subst hy;exact hone _ _ _ _ y2
theorem zzj (S:Hp){t:T}{gv:t.den->List Value}{m:Nat}(hg:∀ x,Rd S t x (gv x)):∀ (l:List t.den) (cs:List Value),cs.length=m*l.length->(∀ i,(h:i<l.length)->(cs.drop (i*m)).take m=gv l[i])->All (Rd S t) l cs
 | [],cs,hl,_=>List.length_eq_zero_iff.1 (by simpa using hl)
 | x :: r,cs,hl,h=>by
   refine⟨cs.take m,cs.drop m,(List.take_append_drop m cs).symm,?_,zzj (m:=m) S hg r (cs.drop m) (by simp only[List.length_cons,List.length_drop,Nat.mul_succ] at hl ⊢;omega) fun i hi=>?_⟩
   . have:=h 0 (by simp);simp only[Nat.zero_mul,List.drop_zero,List.getElem_cons_zero] at this;rw[this];exact hg x
   . have:=h (i+1) (by simpa using hi);simp only[List.getElem_cons_succ] at this;rw[List.drop_drop,show m+i*m=(i+1)*m by rw[Nat.succ_mul];omega];exact this
theorem z160 {P:Program}{W:World}{name:String}{g:Nat}{t e:TypeId}{f0 f1 f2:Field}{k:IntKind}{n:Nat}{l:List (Int×(Int×(List UInt8×Unit)))}{r:List (String×DataW Unit)}
 (hg:P.globalNamed name=some g) (hty:(P.globals[g]?).map (·.type)=some t) (ht:P.underlying t=some (.array n e)) (he:P.underlying e=some (.struct #[f0,f1,f2])) (h0:P.underlying f0.type=some (.int k)) (h1:P.underlying f1.type=some (.int k)) (h2:P.underlying f2.type=some .string) (o0:f0.offset=0) (o1:f1.offset=1) (o2:f2.offset=2) (c0:P.cellsOf f0.type=1) (c1:P.cellsOf f1.type=1) (c2:P.cellsOf f2.type=1) (ce:P.cellsOf e=3) (ct:P.cellsOf t=3*n)
 (h:ztc P W ((name,.agg (l.map fun x=>.agg [.lit (.int k x.1),.lit (.int k x.2.1),.lit (.string x.2.2.1)]))::r)) :
 (VR (hp W) (.ptr (.arr n (iisT k))) l (.pointer (some ⟨g,0,none⟩))/\∃ cs E fr,hp W g=some (.cells cs E fr)/\Rd (hp W) (.arr n (iisT k)) l cs.toList)/\ztc P W r:=by
 obtain⟨⟨cs,t2,fr,fuel,p,hh,e4,_⟩,hr⟩:=zrc hg hty h;obtain⟨h2,h3,h4⟩:=ztu (gv:=fun x:Int×(Int×(List UInt8×Unit))=>[Value.int k x.1,Value.int k x.2.1,Value.string ⟨⟨x.2.2.1⟩⟩]) ht ce (by omega) ct (fun _ _ _ _ hq=>zwo he h0 h1 h2 o0 o1 o2 c0 c1 c2 ce hq) e4;exact⟨zz4 hh ⟨h2,zzj (t:=iisT k) _ (fun x=>⟨[_],[_,_],rfl,rfl,[_],[_],rfl,rfl,[_],[],rfl,rfl,rfl⟩) l _ (by omega) h4⟩,hr⟩
end
end Go.Proofs.YtnnjnkjfkaaikaaDoorPx
