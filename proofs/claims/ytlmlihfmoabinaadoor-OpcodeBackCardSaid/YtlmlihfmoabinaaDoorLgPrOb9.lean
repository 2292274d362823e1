import Derived.Test.YtlmlihfmoabinaaDoorLgPrOb8
import Derived.Lib.Bytealg
set_option linter.all false
set_option maxRecDepth 100000
namespace Go.Proofs.YtlmlihfmoabinaaDoorLg
noncomputable section
open Go Go.Lift Go.Lib Go.Proofs.YtlmlihfmoabinaaDoorPx
def zer:List OpT->Option (List (List UInt8))
 | []=>some []
 | op::r=>match zfh op,zer r with
   | some t,some ts=>some (t::ts)
   | _,_=>none
def z4b (ls:List (List UInt8)):List UInt8:=(ls.map (fun t=>t++[10])).flatten
def scrR (o:Option (List (List UInt8))):List UInt8×Bool×Unit:=match o with
 | some ls=>(z4b ls,true,())
 | none=>([],false,())
theorem zom {op : OpT} {s:List UInt8} (h:zfh op=some s) (hO:zwc op):s.length<=774600/\s≠[]/\∀ c∈s,c≠10:=by
 obtain⟨f,hf,hq,rfl⟩:=zx8 h;obtain⟨hk,hm⟩:=z12b hf;refine⟨ztc hm hq hO,?_,?_⟩
 . intro e;rw[zop] at e;exact (zz5 f hm).2 (List.append_eq_nil_iff.1 e).1
 . obtain⟨ht, _,hn,_,hx,_,hw,_⟩:=zn9 hq hO;rw[zop];have q10:∀ w:List UInt8,∀ c∈z4v w,c≠10:=fun w c hc=>by
    have key:∀ (n i:Nat),w.length - i<=n->∀ c∈z8d w i,c≠10:=by
     intro n
     induction n with
     | zero=>intro i h c hc;rw[zbg (by omega)] at hc;cases hc
     | succ n ih =>
       intro i h c hc;by_cases hi:i<w.length
       . have hu := z3h hi;rw[zbb hi] at hc;rcases List.mem_append.1 hc with hc|hc
         . have hb:=zaf (w.getD i 0);have hdk:∀ n,n<16->hd n≠10:=by decide
           unfold zbt at hc;cases hq:((w.getD i 0).toNat == 34 || (w.getD i 0).toNat == 92) with
           | true =>
             rw[hq,cond_true] at hc;rw[Bool.or_eq_true,beq_iff_eq,beq_iff_eq] at hq;simp only[List.mem_cons,List.not_mem_nil,or_false] at hc;rcases hc with rfl|rfl
             . decide
             . intro e;rw[e] at hq;revert hq;decide
           | false =>
             rw[hq,cond_false] at hc;cases hsf:ze1 w i with
             | false =>
               rw[hsf,cond_false] at hc;simp only[List.mem_cons,List.not_mem_nil,or_false] at hc;rcases hc with rfl|rfl|rfl|rfl
               . decide
               . decide
               . exact hdk _ (by omega)
               . exact hdk _ (by omega)
             | true =>
               rw[hsf,cond_true] at hc;obtain⟨j,hj1,hj2,hj3,e⟩:=zfo hc;have h32:=hsf;rw[ze1,decide_eq_true_eq] at h32;by_cases h128:(w.getD i 0).toNat<128
               . rw[zdz h128] at hj2;have:j=i:=by omega
                 subst this;rw[e] at h32;have h33:=h32.2.1;intro e2;rw[e2] at h33;revert h33;decide
               . have h4:=(z8e hi (by omega)).2.2.2 j hj1 hj2;rw[e] at h4;intro e2;rw[e2] at h4;revert h4;decide
         . exact ih _ (by omega) c hc
       . rw[zbg (by omega)] at hc;cases hc
    unfold z4v at hc;rcases List.mem_cons.1 hc with rfl|hc
    . decide
    rcases List.mem_append.1 hc with hc|hc
    . exact key w.length 0 (by omega) c hc
    . rw[List.mem_singleton.1 hc];decide
   have rest:∀ v∈zbj op f,∀ c∈v,c≠10:=by
    intro v hv;simp only[zbj,List.mem_append] at hv;rcases hv with hv|hv|hv|hv
    . cases e:f.2.2.1<;>rw[e] at hv
      . cases hv
      . rw[cond_true,List.mem_singleton] at hv;subst hv;exact fun c hc=>(znh (ht e) c hc).2.2
    . cases e:f.2.2.2.1<;>rw[e] at hv
      . cases hv
      . rw[cond_true,List.mem_singleton] at hv;subst hv;intro c hc;rcases List.mem_cons.1 hc with rfl|hc
        . decide
        . exact (zit _ c hc).2.2
    . cases e:f.2.2.2.2.1<;>rw[e] at hv
      . cases hv
      . rw[cond_true,List.mem_singleton] at hv;subst hv;exact fun c hc=>(zoq (hn e).1 c hc).2.2
    . cases e:f.2.2.2.2.2.1<;>rw[e] at hv
      . cases hv
      . rw[cond_true] at hv;obtain⟨w,_,rfl⟩:=List.mem_map.1 hv;exact q10 w
   intro c hc;rcases List.mem_append.1 hc with hc|hc
   . exact (zto f hm c hc).2.2
   . unfold z17j at hc;obtain⟨v,hv,hcv⟩:=List.mem_flatten.1 hc;obtain⟨w,hw,rfl⟩:=List.mem_map.1 hv;rcases List.mem_cons.1 hcv with rfl|hcv
     . decide
     . exact rest w hw c hcv
theorem z104 (s:List UInt8):zsq (ofStr s)=true:=by
 unfold zsq;rw[List.all_eq_true];intro n hn;simp only[ofStr,List.mem_map] at hn;obtain⟨u,_,rfl⟩:=hn;have:=zaf u;rw[z11 (by omega),z11 (by omega)];rfl
theorem z112 (N:Nat){o s:List UInt8}(h:o.length+s.length<=1000000000):z1b N ((),(ofStr o,())) s=some (((((s.length:Nat):Int)),(Go.Value.nilIface,())),(((),(ofStr (o++s),())),())):=by
 simp only[z1b];rw[zb (z11 (by rw[z29,z29];omega)),<- z89]
theorem z14o (k:Nat){l:List OpT}(hl:l.length<=30)(hO:∀ op∈l,zwc op)(hw:∀ op∈l,op.2.2.2.2.1.length<=100000):z4n (k+1000000) l=some (scrR (zer l)):=by
 simp only[z4n,zfz];rw[zl (z24 (by omega))];rw[z6o (I:=fun (v:(Unit×(List Int×Unit))×Int)=>∃ (o:List UInt8) (i:Nat),v=(((),(ofStr o,())),(i:Int))/\i<=l.length/\o.length<=774601*i) (m:=fun v=>l.length - v.2.toNat) (R:=fun v=>some (match zer (l.drop v.2.toNat) with|some ls=>(toStr v.1.2.1++z4b ls,true,())|none=>([],false,()))) ?_ (k+1000000) (((),(([]:List Int),())),0) ⟨[],0,rfl,by omega,by simp⟩ (by simp;omega)]
 . show some (match zer l with|some ls=>(toStr []++z4b ls,true,())|none=>([],false,()))=_;cases zer l<;>rfl
 rintro v r ⟨o,i,rfl,hi,ho⟩ hr;dsimp only at hr ⊢;rw[Int.toNat_natCast] at hr;simp only[zai,Int.toNat_natCast];by_cases hlt:i<l.length
 . have hm:=ziv l op0 i hlt;have hd:=z5u l op0 i hlt;show cond (decide ((i:Int)<((l.length:Nat):Int))) (cond (inR (i:Int) l.length) ((z2n (k+1000000) (l.getD i op0)).bind _) none) _=_;rw[zb (z11 (by omega)),zb (z28 hlt),hd];generalize l.getD i op0=op at hm;rw[ztd k (hw op hm) (hO op hm),Option.bind_some];simp only[zer];cases hL:zfh op with
   | none=>rfl
   | some t =>
     have hs:=(zom hL (hO op hm)).1;simp only[zyi,Bool.not_true,cond_false];rw[z112 _ (by omega),Option.bind_some];dsimp only;rw[z112 _ (by simp only[List.length_append,List.length_cons,List.length_nil];omega),Option.bind_some];dsimp only;rw[z2e (by omega),hr _ ⟨(o++t)++[10],i+1,rfl,by omega,by simp only[List.length_append,List.length_cons,List.length_nil];omega⟩ (by dsimp only;omega)];dsimp only;rw[Int.toNat_natCast,z40,z40];cases zer (l.drop (i+1)) with
     | none=>rfl
     | some ts=>simp[z4b]
 . rw[zl (z24 (by omega)),z93 l (by omega)];simp only[zer];have:z14i (((),(ofStr o,())),())=some (o,(((),((),())),())):=by
    unfold z14i;rw[zb (show (zsq (ofStr o) && decide ((ofStr o).length<=9223372036854775807))=true by rw[z104,z11 (by rw[z29];omega)];rfl)];show some (toStr (ofStr o),_)=_;rw[z40]
   rw[this,Option.bind_some,z40];simp[z4b]
def zxm:List UInt8->List UInt8×List UInt8×Bool
 | []=>([],[],false)
 | c::r=>if c=10 then ([],r,true) else (c::(zxm r).1,(zxm r).2.1,(zxm r).2.2)
theorem zw8:∀ s:List UInt8,((zxm s).2.2=false->Lib.indexByte s 10=-1/\(zxm s).1=s/\(zxm s).2.1=[])/\((zxm s).2.2=true->Lib.indexByte s 10=(((zxm s).1.length:Nat):Int)/\s=(zxm s).1++10::(zxm s).2.1)
 | []=>⟨fun _=>⟨rfl,rfl,rfl⟩,fun h=>by cases h⟩
 | c :: r=>by
   obtain⟨h1,h2⟩:=zw8 r;unfold zxm Lib.indexByte;by_cases h:c=10
   . rw[if_pos h,if_pos (by rw[beq_iff_eq];exact h)];exact⟨(fun e=>by cases e),fun _=>⟨rfl,by rw[h];rfl⟩⟩
   . rw[if_neg h,if_neg (by rw[beq_iff_eq];exact h)];refine⟨fun e=>?_,fun e=>?_⟩
     . obtain⟨a,b,d⟩:=h1 e;rw[a,if_pos (by rfl)];exact⟨rfl,by dsimp only;rw[b],d⟩
     . obtain⟨a,b⟩:=h2 e;rw[a,if_neg (by rw[beq_iff_eq];omega)];exact⟨by simp only[List.length_cons];omega,by dsimp only;rw[List.cons_append,<- b]⟩
theorem z1ay (N:Nat){s:List UInt8}(hs:s.length<=1000000000):zbh N s [10]=some ((zxm s).1,((zxm s).2.1,((zxm s).2.2,()))):=by
 have hidx:z1as (s,([10],()))=some (Lib.indexByte s 10):=rfl;simp only[zbh,z3a,hidx,Option.bind_some];obtain⟨h1,h2⟩:=zw8 s;generalize zxm s=p at h1 h2 ⊢;obtain⟨p1,p2,p3⟩:=p;dsimp only at h1 h2 ⊢;cases p3 with
 | false =>
   obtain⟨a,b,d⟩:=h1 rfl;rw[a,zl (z24 (by omega)),Option.bind_some,b,d]
 | true =>
   obtain⟨a,b⟩:=h2 rfl;have hl:s.length=p1.length+(p2.length+1):=by
    have:=congrArg List.length b;rw[List.length_append,List.length_cons] at this;exact this
   rw[a,zb (z11 (by omega)),zb (z11 ⟨by omega,by omega⟩)];rw[show ((([(10:UInt8)]:List UInt8).length:Nat):Int)=1 from rfl,z2e (by omega),zb (z11 ⟨by omega,by omega⟩),Option.bind_some,Int.toNat_natCast,Int.toNat_natCast,z18i,zlk];dsimp only;have e1:s.take p1.length=p1:=by rw[b];exact List.take_left' rfl
   have e2:s.drop (p1.length+1)=p2:=by
    rw[b,show p1++10::p2=(p1++[10])++p2 by simp,List.drop_left' (by simp)]
   rw[e1,e2]
theorem zz3:∀ (t r:List UInt8),(∀ c∈t,c≠10)->zxm (t++10::r)=(t,r,true)
 | [],r,_=>by simp[zxm]
 | c::t,r,h=>by
   rw[List.cons_append,zxm,if_neg (h c List.mem_cons_self),zz3 t r (fun d hd=>h d (List.mem_cons_of_mem _ hd))]
theorem zpr:∀ ls:List (List UInt8),(∀ t∈ls,∀ c∈t,c≠10)->Lib.countByte (z4b ls) 10=ls.length
 | [],_=>rfl
 | t::ls,h=>by
   have ih:=zpr ls (fun u hu=>h u (List.mem_cons_of_mem _ hu));have h0:t.count 10=0:=List.count_eq_zero_of_not_mem (fun hm=>h t List.mem_cons_self 10 hm rfl);unfold Lib.countByte at ih ⊢;simp only[z4b,List.map_cons,List.flatten_cons,List.count_append] at ih ⊢;rw[ih,h0];simp;omega
theorem z15m {l:List OpT} {ls:List (List UInt8)} (h:zer l=some ls):ls.length=l.length/\∀ i,i<l.length->zfh (l.getD i op0)=some (ls.getD i []):=by
 induction l generalizing ls with
 | nil=>cases h;exact⟨rfl,fun i hi=>by simp at hi⟩
 | cons op r ih =>
   rw[zer] at h;cases h1:zfh op with
   | none=>rw[h1] at h;cases h
   | some t =>
     cases h2:zer r with
     | none=>rw[h1,h2] at h;cases h
     | some ts =>
       rw[h1,h2] at h;cases h;obtain⟨a,b⟩:=ih h2;refine⟨by simp[a],fun i hi=>?_⟩;cases i with
       | zero=>exact h1
       | succ i=>exact b i (by simpa using hi)
theorem zd7:∀ ls:List (List UInt8),(∀ t∈ls,t.length<=774600)->(z4b ls).length<=774601*ls.length
 | [],_=>by simp[z4b]
 | t::ls,h=>by
   have h1:=zd7 ls (fun u hu=>h u (List.mem_cons_of_mem _ hu));have h2:=h t List.mem_cons_self;simp only[z4b,List.map_cons,List.flatten_cons,List.length_append,List.length_cons,List.length_nil] at h1 ⊢;omega
theorem zp2 (ls:List (List UInt8)){i:Nat}(hi:i<ls.length):z4b (ls.drop i)=ls.getD i []++10::z4b (ls.drop (i+1)):=by
 rw[z5u ls [] i hi];simp[z4b]
theorem zrk (k:Nat){l:List OpT}{ls:List (List UInt8)}(hl:l.length<=30)(hO:∀ op∈l,zwc op)(h:zer l=some ls):z4o (k+1000000) (z4b ls)=some (l,((0,(0,())),())):=by
 obtain⟨h1,h2⟩:=z15m h;have hsh:∀ i,i<ls.length->(ls.getD i []).length<=774600/\ls.getD i []≠[]/\∀ c∈ls.getD i [],c≠10:=fun i hi=>zom (h2 i (by omega)) (hO _ (ziv l op0 i (by omega)))
 have hmem:∀ t∈ls,t.length<=774600/\t≠[]/\∀ c∈t,c≠10:=fun t ht=>by
  obtain⟨i,hi,e⟩:=List.getElem_of_mem ht;have:=hsh i hi;rw[List.getD_eq_getElem?_getD,List.getElem?_eq_getElem hi,Option.getD_some,e] at this;exact this
 have hlen:=zd7 ls (fun t ht=>(hmem t ht).1);simp only[z4o,zdn,zka];rw[zpr ls (fun t ht=>(hmem t ht).2.2),zl (z24 (by omega))];rw[z6o (I:=fun (v:List UInt8×List OpT)=>∃ i:Nat,v=(z4b (ls.drop i),l.take i)/\i<=ls.length) (m:=fun v=>l.length - v.2.length) (R:=fun _=>some (l,((0,(0,())),()))) ?_ (k+1000000) (z4b ls,[]) ⟨0,rfl,by omega⟩ (by simp;omega)];rintro v r ⟨i,rfl,hi⟩ hr;dsimp only at hr ⊢;simp only[zdl,zdm];by_cases hlt:i<ls.length
 . obtain⟨s1,s2,s3⟩:=hsh i hlt;have hsl:(z4b (ls.drop i)).length<=1000000000:=by
    have:=zd7 (ls.drop i) (fun t ht=>(hmem t (List.mem_of_mem_drop ht)).1);rw[List.length_drop] at this;omega
   have hne:(z4b (ls.drop i) == ([]:List UInt8))=false:=by
    rw[beq_eq_false_iff_ne,zp2 ls hlt];simp
   rw[hne,Bool.not_false,cond_true,z1ay _ hsl,Option.bind_some,zp2 ls hlt,zz3 _ _ s3];dsimp only;rw[zvn k (h2 i (by omega)) (hO _ (ziv l op0 i (by omega))),Option.bind_some];simp only[cond_true];rw[zb (z11 (by rw[List.length_take];omega))];have e:=zgq l op0 i (by omega);show r (z4b (ls.drop (i+1)),l.take i++[l.getD i op0])=_;rw[<- e];exact hr _ ⟨i+1,rfl,by omega⟩ (by simp only[List.length_take];omega)
 . rw[z93 ls (by omega),List.take_of_length_le (by omega)];rfl
theorem z17u (k:Nat):z4o (k+1000000) []=some ([],((0,(0,())),())):=zrk k (l:=[]) (ls:=[]) (by simp) (by simp) rfl
theorem z154 (k:Nat):z1f (k+1000000) []=some (op0,false,()):=by
 obtain⟨o,h1,h2⟩:=z11w k (s:=[]) (by simp);cases o with
 | none=>exact h1
 | some op =>
   obtain⟨h3,h4⟩:=h2.1 op rfl;exact absurd rfl (zom h3 h4).2.1
def FitG (op:OpT):Prop:=op.2.2.2.2.1.length<=70/\zwc op
theorem z18r (k : Nat) {l:List OpT} {s:List UInt8} (hl:l.length<=20) (hs:s.length<=500) (hG:∀ op∈l,FitG op) :
 ((z4n (k+1000000) l).bind fun y =>
   (z4o (k+1000000) y.1).bind fun y1 =>
   z1z (k+1000000) l s y.2.1 y1.1 y1.2.1
   (fun x42=>some x42)
   (z2r (k + 1000000) l s y1.1 (0:Int)
    (fun x43=>some x43)
    ((z1f (k+1000000) s).bind fun y2 =>
      (z2n (k+1000000) y2.1).bind fun y3 =>
      cond (!y2.2.1)
      ((z1c (k+1000000)).bind fun y4 =>
        some y4)
      (cond y3.2.1
       (cond (y3.1 == s)
        ((z1c (k+1000000)).bind fun y5 =>
          some y5)
        (some false))
       (some false)))))=some true:=by
 have hw:=zve k;have fin:((z1f (k+1000000) s).bind fun y2 =>
  (z2n (k+1000000) y2.1).bind fun y3 =>
  cond (!y2.2.1)
  ((z1c (k+1000000)).bind fun y4 =>
    some y4)
  (cond y3.2.1
   (cond (y3.1 == s)
    ((z1c (k+1000000)).bind fun y5 =>
      some y5)
    (some false))
   (some false)))=some true:=by
  obtain⟨o,h1,h2⟩:=z11w k (s:=s) (by omega);have hwo:=z18a h2;rw[hw,h1,Option.bind_some];cases o with
  | none =>
    rw[ztd k hwo (fun w hw=>by simp[opR,op0] at hw)];rfl
  | some op =>
    obtain⟨h3,h4⟩:=h2.1 op rfl;rw[ztd k hwo h4,Option.bind_some];show cond (!true) _ (cond (zyi (zfh op)).2.1 (cond ((zyi (zfh op)).1 == s) _ _) _)=_;rw[h3];simp only[zyi,Bool.not_true,cond_false,cond_true,beq_self_eq_true];rfl
 rw[fin];have hO:∀ op∈l,zwc op:=fun op h=>(hG op h).2
 rw[z14o k (by omega) hO (fun op h=>by have:=(hG op h).1;omega),Option.bind_some];cases hL:zer l with
 | none =>
   show ((z4o (k+1000000) []).bind _)=_;rw[z17u,Option.bind_some];simp only[z1z,z2s,z2r,scrR,cond_false];rw[show k+1000000=(k+999999)+1 from rfl,z5s];simp only[z2p];rfl
 | some ls =>
   show ((z4o (k+1000000) (z4b ls)).bind _)=_;rw[zrk k (by omega) hO hL,Option.bind_some];simp only[z1z,z2s,z2r,scrR,cond_true];rw[zl (by rfl),zl (by simp)];rw[z6o (I:=fun (v:Int)=>∃ i:Nat,v=(i:Int)/\i<=l.length) (m:=fun v=>l.length - v.toNat) (R:=fun _=>some true) ?_ (k+1000000) 0 ⟨0,rfl,by omega⟩ (by simp;omega)];rintro v r ⟨i,rfl,hi⟩ hr;rw[Int.toNat_natCast] at hr;simp only[z2p,Int.toNat_natCast];by_cases hlt:i<l.length
   . have hm:=hG _ (ziv l op0 i hlt);rw[zb (z11 (by omega)),zb (z28 hlt),zb (z28 hlt)];show ((z1g (k+1000000) (l.getD i op0) (l.getD i op0)).bind _)=_;rw[zxz _ (by have:=hm.1;omega) (by have:=hm.1;omega),Option.bind_some,zl (by rfl),z2e (by omega)];exact hr _ ⟨i+1,rfl,by omega⟩ (by simp;omega)
   . rw[zl (z24 (by omega))]
theorem z1cl (k:Nat){l:List OpT}{s:List UInt8}:z1w (k+1000000) l s=some true:=by
 have hw:=zve k;simp only[z1w,z44,z43];by_cases h1:20<l.length
 . rw[zb (z11 (by omega)),cond_true,hw];rfl
 rw[zl (z24 (by omega))];by_cases h2:500<s.length
 . rw[z11 (by omega),cond_true,hw];rfl
 rw[z24 (by omega),cond_false];generalize hK:((z4n (k+1000000) l).bind _)=K;have hend:(∀ op∈l,FitG op)->K=some true:=fun hG=>by rw[<- hK];exact z18r k (by omega) (by omega) hG
 simp only[z6s];have key:=zid (step:=fun (v:Int) r=>z2q (k+1000000) l s v (fun i=>(r i)) (fun x41=>some x41) K) (I:=fun (v:Int)=>∃ i:Nat,v=(i:Int)/\i<=l.length/\∀ op∈l.take i,FitG op) (m:=fun v=>l.length - v.toNat) (p:=fun o=>o=some true) ?_ (k+1000000) 0 ⟨0,rfl,by omega,by simp⟩ (by simp;omega)
 . exact key
 rintro v r ⟨i,rfl,hi,ht⟩ hr;rw[Int.toNat_natCast] at hr;simp only[z2q,z42,z41,Int.toNat_natCast];by_cases hlt:i<l.length
 case neg =>
  rw[zl (z24 (by omega))];exact hend (by rw[List.take_of_length_le (by omega)] at ht;exact ht)
 rw[zb (z11 (by omega)),zb (z28 hlt)];have htk:=zgq l op0 i hlt;show ((z3o (k+1000000) (l.getD i op0)).bind fun y=>cond y _ (cond (inR (i:Int) l.length) ((z2n (k+1000000) (l.getD i op0)).bind fun y2=>(z1f (k+1000000) y2.1).bind fun y3=>cond (!(y2.2.1 == y3.2.1)) _ (cond y2.2.1 (cond (inR (i:Int) l.length) ((z1g (k+1000000) y3.1 (l.getD i op0)).bind _) none) _)) none))=some true;generalize l.getD i op0=op at htk;obtain⟨b,hb,hb'⟩:=z18b (k+1000000) (op:=op) (by omega);rw[hb,Option.bind_some];cases b with
 | true=>rw[hw];rfl
 | false =>
   obtain⟨g1,g2,g3,g4⟩:=hb' rfl;have hO:zwc op:=fun w hw=>by rcases g4 w hw with h|h<;>omega
   have hgo:r (IntKind.wrap .i64 ((i:Int)+1))=some true:=by
    rw[z2e (by omega)];refine hr _ ⟨i+1,rfl,by omega,fun q hq=>?_⟩ (by simp;omega);rw[htk] at hq;rcases List.mem_append.1 hq with hq|hq
    . exact ht q hq
    . rw[List.mem_singleton.1 hq];exact⟨g2,hO⟩
   rw[cond_false,zb (z28 hlt),ztd k (by omega) hO,Option.bind_some];cases hL:zfh op with
   | none =>
     show ((z1f (k+1000000) []).bind _)=_;rw[z154,Option.bind_some];exact hgo
   | some t =>
     show ((z1f (k+1000000) t).bind _)=_;rw[zvn k hL hO,Option.bind_some];simp only[zyi,beq_self_eq_true,Bool.not_true,cond_false,cond_true];rw[zb (z28 hlt),zxz _ (by omega) (by omega),Option.bind_some];exact hgo
end
end Go.Proofs.YtlmlihfmoabinaaDoorLg
