import Derived.Test.YthdblfmolchhpaaGreatDoorLgPrBt6
import Derived.Test.YthdblfmolchhpaaGreatDoorLgW
import Derived.LaidLaws
set_option linter.all false
namespace Go.Proofs.YthdblfmolchhpaaGreatDoorPx
noncomputable section
open Go Go.Lift
theorem zsf {α β:Type}{f:α->Option β}:∀ {l:List α} {ys:List β},l.mapM f=some ys->ys.length=l.length/\∀ i,(h:i<l.length)->∃ y,ys[i]?=some y/\f l[i]=some y
 | [],ys,h=>by simp at h;subst h;simp
 | a :: l,ys,h=>by
   simp only[List.mapM_cons,Option.pure_def,Option.bind_eq_bind,Option.bind_eq_some_iff,Option.some.injEq] at h;obtain⟨y,hy,zs,hz,rfl⟩:=h;obtain⟨h1,h2⟩:=zsf hz;refine⟨by simp[h1],fun i hi=>?_⟩;cases i with
   | zero=>exact⟨y,rfl,hy⟩
   | succ i =>
     obtain⟨z,e1,e2⟩:=h2 i (by simpa using hi);exact⟨z,by simpa using e1,by simpa using e2⟩
theorem zuv {H:Type}{enc:TypeId×Value->H}{P:Program}{w:World}{base:Nat}{sp:Nat->Bool}{held:Bool}{fuel:Nat}{t:TypeId}{k:IntKind}{c:Value}{y:DataW H×List MemPlace}
 (ht:P.underlying t=some (.int k)) (h:DataW.trod enc P w base sp held fuel t [c]=some y):∃ n,c=.int k n/\y=(.lit (.int k n),[]):=by
 cases fuel with
 | zero=>simp[DataW.trod] at h
 | succ fuel =>
   cases c<;>simp[DataW.trod,ht] at h
   rename_i k' n;obtain⟨⟨rfl,_⟩,rfl⟩:=h;exact⟨n,rfl,rfl⟩
theorem zsm {P:Program} {w:World} {base:Nat} {sp:Nat->Bool} {held:Bool} {fuel:Nat} {t e:TypeId} {k:IntKind} {n:Nat} {cs:List Value} {ns:List Int} {p:List MemPlace}
 (ht:P.underlying t=some (.array n e)) (he:P.underlying e=some (.int k)) (hc:P.cellsOf e=1) (hct:P.cellsOf t=n)
 (h:DataW.trod (fun _=>()) P w base sp held fuel t cs=some (.agg (ns.map fun i=>.lit (.int k i)),p)):cs=ns.map (fun i=>.int k i)/\ns.length=n:=by
 cases fuel with
 | zero=>simp[DataW.trod] at h
 | succ fuel =>
   simp only[DataW.trod,ht,hc,hct] at h;split at h
   . rename_i hl;simp only[Option.map_eq_some_iff] at h;obtain⟨xs,hm,hx⟩:=h;obtain⟨h1,h2⟩:=zsf hm;simp only[Prod.mk.injEq,DataW.agg.injEq] at hx;have hlen:ns.length=n:=by
      have:=congrArg List.length hx.1;simp only[List.length_map,List.length_range] at this h1;omega
     refine⟨List.ext_getElem? fun i=>?_,hlen⟩;by_cases hi:i<n
     . obtain⟨y,e1,e2⟩:=h2 i (by simpa using hi);have hci:(cs.drop (i*1)).take 1=[cs[i]'(by omega)]:=by
        rw[Nat.mul_one,List.drop_eq_getElem_cons (by omega:i<cs.length)];rfl
       simp only[List.getElem_range] at e2;rw[hci] at e2;obtain⟨m,hm1,hm2⟩:=zuv he e2;have hy:(xs.map (·.1))[i]?=some (.lit (.int k m)):=by rw[List.getElem?_map,e1,hm2];rfl
       rw[hx.1,List.getElem?_map] at hy;have hn:ns[i]?=some (ns[i]'(by omega)):=List.getElem?_eq_getElem (by omega);rw[hn] at hy;simp only[Option.map_some,Option.some.injEq,DataW.lit.injEq,Lit.int.injEq,true_and] at hy;rw[List.getElem?_eq_getElem (by omega:i<cs.length),hm1,List.getElem?_map,hn,Option.map_some,hy]
     . rw[List.getElem?_eq_none (by omega),List.getElem?_eq_none (by rw[List.length_map];omega)]
   . cases h
theorem zif (S:Hp)(k:IntKind):∀ ns:List Int,All (Rd S (.int k)) ns (ns.map fun i=>.int k i)
 | []=>rfl
 | x::r=>⟨[.int k x],_,rfl,rfl,zif S k r⟩
theorem z123 {P:Program}{W:World}{name:String}{g:Nat}{t e:TypeId}{k:IntKind}{n:Nat}{ns:List Int}{r:List (String×DataW Unit)}{ps:List MemPlace}
 (hg:P.globalNamed name=some g) (hty:(P.globals[g]?).map (·.type)=some t) (ht:P.underlying t=some (.array n e)) (he:P.underlying e=some (.int k)) (hc:P.cellsOf e=1) (hct:P.cellsOf t=n)
 (h:DataW.LaidVars P W ((name,.agg (ns.map fun i=>.lit (.int k i)))::r) ps) :
 VR (hp W) (.ptr (.arr n (.int k))) ns (.pointer (some ⟨g,0,none⟩))/\∃ q,DataW.LaidVars P W r q:=by
 obtain⟨g',t',cs,fuel,p,q,e1,e2,e3,e4,e5,_⟩:=h;obtain rfl:=Option.some.inj (hg.symm.trans e1);obtain rfl:=Option.some.inj (hty.symm.trans e2);obtain⟨h1,h2⟩:=zsm ht he hc hct e4;refine⟨?_,q,e5⟩;simp only[World.var?,hg,Option.bind_some] at e3;split at e3
 . rename_i cs' t2 fr hh;simp only[Option.some.injEq] at e3;subst e3;refine VR.of_one rfl ⟨g,0,cs'.toList,rfl,⟨cs',t2,fr,[],[],hh,by simp,rfl⟩,?_⟩;rw[h1];exact⟨h2,zif _ _ _⟩
 . cases e3
end
end Go.Proofs.YthdblfmolchhpaaGreatDoorPx
