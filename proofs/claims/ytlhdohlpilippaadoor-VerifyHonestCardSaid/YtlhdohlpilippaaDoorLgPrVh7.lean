import Derived.Test.YtlhdohlpilippaaDoorLgPrVh6
import Derived.Test.YtlhdohlpilippaaDoorLgW
import Derived.LaidLaws
set_option linter.all false
namespace Go.Proofs.YtlhdohlpilippaaDoorPx
noncomputable section
open Go Go.Lift
theorem zqx {α β:Type}{f:α->Option β}:∀ {l:List α} {ys:List β},l.mapM f=some ys->ys.length=l.length/\∀ i,(h:i<l.length)->∃ y,ys[i]?=some y/\f l[i]=some y
 | [],ys,h=>by simp at h;subst h;simp
 | a :: l,ys,h=>by
   simp only[List.mapM_cons,Option.pure_def,Option.bind_eq_bind,Option.bind_eq_some_iff,Option.some.injEq] at h;obtain⟨y,hy,zs,hz,rfl⟩:=h;obtain⟨h1,h2⟩:=zqx hz;refine⟨by simp[h1],fun i hi=>?_⟩;cases i with
   | zero=>exact⟨y,rfl,hy⟩
   | succ i =>
     obtain⟨z,e1,e2⟩:=h2 i (by simpa using hi);exact⟨z,by simpa using e1,by simpa using e2⟩
theorem zt9 {H:Type}{enc:TypeId×Value->H}{P:Program}{w:World}{base:Nat}{sp:Nat->Bool}{held:Bool}{fuel:Nat}{t:TypeId}{k:IntKind}{c:Value}{y:DataW H×List MemPlace}
 (ht:P.underlying t=some (.int k)) (h:DataW.trod enc P w base sp held fuel t [c]=some y):∃ n,c=.int k n/\y=(.lit (.int k n),[]):=by
 cases fuel with
 | zero=>simp[DataW.trod] at h
 | succ fuel =>
   cases c<;>simp[DataW.trod,ht] at h
   rename_i k' n;obtain⟨⟨rfl,_⟩,rfl⟩:=h;exact⟨n,rfl,rfl⟩
theorem zr3 {P:Program} {w:World} {base:Nat} {sp:Nat->Bool} {held:Bool} {fuel:Nat} {t e:TypeId} {k:IntKind} {n:Nat} {cs:List Value} {ns:List Int} {p:List MemPlace}
 (ht:P.underlying t=some (.array n e)) (he:P.underlying e=some (.int k)) (hc:P.cellsOf e=1) (hct:P.cellsOf t=n)
 (h:DataW.trod (fun _=>()) P w base sp held fuel t cs=some (.agg (ns.map fun i=>.lit (.int k i)),p)):cs=ns.map (fun i=>.int k i)/\ns.length=n:=by
 cases fuel with
 | zero=>simp[DataW.trod] at h
 | succ fuel =>
   simp only[DataW.trod,ht,hc,hct] at h;split at h
   . rename_i hl;simp only[Option.map_eq_some_iff] at h;obtain⟨xs,hm,hx⟩:=h;obtain⟨h1,h2⟩:=zqx hm;simp only[Prod.mk.injEq,DataW.agg.injEq] at hx;have hlen:ns.length=n:=by
      have:=congrArg List.length hx.1;simp only[List.length_map,List.length_range] at this h1;omega
     refine⟨List.ext_getElem? fun i=>?_,hlen⟩;by_cases hi:i<n
     . obtain⟨y,e1,e2⟩:=h2 i (by simpa using hi);have hci:(cs.drop (i*1)).take 1=[cs[i]'(by omega)]:=by
        rw[Nat.mul_one,List.drop_eq_getElem_cons (by omega:i<cs.length)];rfl
       simp only[List.getElem_range] at e2;rw[hci] at e2;obtain⟨m,hm1,hm2⟩:=zt9 he e2;have hy:(xs.map (·.1))[i]?=some (.lit (.int k m)):=by rw[List.getElem?_map,e1,hm2];rfl
       rw[hx.1,List.getElem?_map] at hy;have hn:ns[i]?=some (ns[i]'(by omega)):=List.getElem?_eq_getElem (by omega);rw[hn] at hy;simp only[Option.map_some,Option.some.injEq,DataW.lit.injEq,Lit.int.injEq,true_and] at hy;rw[List.getElem?_eq_getElem (by omega:i<cs.length),hm1,List.getElem?_map,hn,Option.map_some,hy]
     . rw[List.getElem?_eq_none (by omega),List.getElem?_eq_none (by rw[List.length_map];omega)]
   . cases h
theorem zhs (S:Hp)(k:IntKind):∀ ns:List Int,All (Rd S (.int k)) ns (ns.map fun i=>.int k i)
 | []=>rfl
 | x::r=>⟨[.int k x],_,rfl,rfl,zhs S k r⟩
end
end Go.Proofs.YtlhdohlpilippaaDoorPx
set_option linter.all false
namespace Go.Proofs.YtlhdohlpilippaaDoorPx
noncomputable section
open Go Go.Lift
def z111 (P:Program)(W:World)(l:List (String×DataW Unit)):Prop:=∃ ps,DataW.LaidVars P W l ps/\∀ b off,MemPlace.cell b off∈ps->∀ u v,W.cell? ⟨b,off,none⟩=some (.iface u v)->Value.okWide P W .any 0 u v
theorem z12o {P:Program}{W:World}{l:List (String×DataW Unit)}(h:laidMet P l W):z111 P W l:=by
 obtain⟨ps,h1,_,h3⟩:=h;exact⟨ps,h1,fun b off hb=>(h3 b off hb).2⟩
theorem zwv {P:Program}{W:World}{name:String}{d:DataW Unit}{r:List (String×DataW Unit)}{g:Nat}{t:TypeId}(hg:P.globalNamed name=some g)(hty:(P.globals[g]?).map (·.type)=some t)(h:z111 P W ((name,d)::r)) :
 (∃ cs t2 fr fuel p,W.heap[g]?=some (.cells cs t2 fr)/\DataW.trod (fun _=>()) P W 0 (fun _=>true) false fuel t cs.toList=some (d,p)/\∀ u v,cs.toList=[.iface u v]->Value.okWide P W .any 0 u v)/\z111 P W r:=by
 obtain⟨ps,⟨g',t',cs,fuel,p,q,e1,e2,e3,e4,e5,rfl⟩,hok⟩:=h;obtain rfl:=Option.some.inj (hg.symm.trans e1);obtain rfl:=Option.some.inj (hty.symm.trans e2);refine⟨?_,q,e5,fun b off hb=>hok b off (by simp[hb])⟩;simp only[World.var?,hg,Option.bind_some] at e3;split at e3
 case h_2=>cases e3
 rename_i cs' t2 fr hh;simp only[Option.some.injEq] at e3;subst e3;refine⟨cs',t2,fr,fuel,p,hh,e4,fun u v hc=>?_⟩;have hcs:cs'=#[.iface u v]:=by apply Array.toList_inj.1;rw[hc]
 subst hcs;refine hok g 0 (by simp[MemPlace.row]) u v ?_;simp[World.cell?,hh]
theorem z130 {W:World}{g:Nat}{T0:T}{x:T0.den}{cs:Array Value}{t2:TypeId}{fr:Nat×Nat}(hh:W.heap[g]?=some (.cells cs t2 fr))(h:Rd (hp W) T0 x cs.toList) :
 VR (hp W) (.ptr T0) x (.pointer (some ⟨g,0,none⟩))/\∃ cs E fr,hp W g=some (.cells cs E fr)/\Rd (hp W) T0 x cs.toList :=
 ⟨VR.of_one rfl ⟨g,0,cs.toList,rfl,⟨cs,t2,fr,[],[],hh,by simp,rfl⟩,h⟩,cs,t2,fr,hh,h⟩
theorem zzo {P:Program}{W:World}{name:String}{g:Nat}{t e:TypeId}{k:IntKind}{n:Nat}{ns:List Int}{r:List (String×DataW Unit)}
 (hg:P.globalNamed name=some g) (hty:(P.globals[g]?).map (·.type)=some t) (ht:P.underlying t=some (.array n e)) (he:P.underlying e=some (.int k)) (hc:P.cellsOf e=1) (hct:P.cellsOf t=n)
 (h:z111 P W ((name,.agg (ns.map fun i=>.lit (.int k i)))::r)) :
 (VR (hp W) (.ptr (.arr n (.int k))) ns (.pointer (some ⟨g,0,none⟩))/\∃ cs E fr,hp W g=some (.cells cs E fr)/\Rd (hp W) (.arr n (.int k)) ns cs.toList)/\z111 P W r:=by
 obtain⟨⟨cs,t2,fr,fuel,p,hh,e4,_⟩,hr⟩:=zwv hg hty h;obtain⟨h1,h2⟩:=zr3 ht he hc hct e4;refine⟨z130 hh ?_,hr⟩;rw[h1];exact⟨h2,zhs _ _ _⟩
end
end Go.Proofs.YtlhdohlpilippaaDoorPx
