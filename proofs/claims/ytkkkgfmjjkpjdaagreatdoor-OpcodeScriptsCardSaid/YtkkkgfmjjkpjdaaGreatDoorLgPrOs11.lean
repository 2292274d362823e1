import Derived.Test.YtkkkgfmjjkpjdaaGreatDoorLgPrOs10
import Derived.Lib.Bytealg
import Derived.Test.YtkkkgfmjjkpjdaaGreatDoorLgPrOs8
set_option linter.all false
set_option maxRecDepth 100000
namespace Go.Proofs.YtkkkgfmjjkpjdaaGreatDoorLg
noncomputable section
open Go Go.Lift Go.Lib Go.Proofs.YtkkkgfmjjkpjdaaGreatDoorPx
def zmc:List OpT->Option (List (List UInt8))
 | []=>some []
 | op::r=>match zfv op,zmc r with
   | some t,some ts=>some (t::ts)
   | _,_=>none
def zpb (ls:List (List UInt8)):List UInt8:=(ls.map (fun t=>t++[10])).flatten
def scrR (o:Option (List (List UInt8))):List UInt8×Bool×Unit:=match o with
 | some ls=>(zpb ls,true,())
 | none=>([],false,())
theorem z1ct {op:OpT} {s:List UInt8} (h:zfv op=some s) (hO:z13y op):s.length<=774600/\s≠[]/\∀ c∈s,c≠10:=by
 obtain⟨f,hf,hq,rfl⟩:=z17m h;obtain⟨hk,hm⟩:=z17q hf;refine⟨z1a3 hm hq hO,?_,?_⟩
 . intro e;rw[z62] at e;exact (z1ag f hm).2 (List.append_eq_nil_iff.1 e).1
 . obtain⟨ht, _,hn,_,hx,_,hw,_⟩:=zq5 hq hO;rw[z62];have q10:∀ w:List UInt8,∀ c∈z23 w,c≠10:=fun w c hc=>by
    have key:∀ (n i:Nat),w.length - i<=n->∀ c∈z6b w i,c≠10:=by
     intro n
     induction n with
     | zero=>intro i h c hc;rw[zen (by omega)] at hc;cases hc
     | succ n ih =>
       intro i h c hc;by_cases hi:i<w.length
       . have hu := z3e hi;rw[zdw hi] at hc;rcases List.mem_append.1 hc with hc|hc
         . have hb:=z9m (w.getD i 0);have hdk:∀ n,n<16->hd n≠10:=by decide
           unfold zfr at hc;cases hq:((w.getD i 0).toNat == 34 || (w.getD i 0).toNat == 92) with
           | true =>
             rw[hq,cond_true] at hc;rw[Bool.or_eq_true,beq_iff_eq,beq_iff_eq] at hq;simp only[List.mem_cons,List.not_mem_nil,or_false] at hc;rcases hc with rfl|rfl
             . decide
             . intro e;rw[e] at hq;revert hq;decide
           | false =>
             rw[hq,cond_false] at hc;cases hsf:zdo w i with
             | false =>
               rw[hsf,cond_false] at hc;simp only[List.mem_cons,List.not_mem_nil,or_false] at hc;rcases hc with rfl|rfl|rfl|rfl
               . decide
               . decide
               . exact hdk _ (by omega)
               . exact hdk _ (by omega)
             | true =>
               rw[hsf,cond_true] at hc;obtain⟨j,hj1,hj2,hj3,e⟩:=zq4 hc;have h32:=hsf;rw[zdo,decide_eq_true_eq] at h32;by_cases h128:(w.getD i 0).toNat<128
               . rw[zdv h128] at hj2;have:j=i:=by omega
                 subst this;rw[e] at h32;have h33:=h32.2.1;intro e2;rw[e2] at h33;revert h33;decide
               . have h4:=(zco hi (by omega)).2.2.2 j hj1 hj2;rw[e] at h4;intro e2;rw[e2] at h4;revert h4;decide
         . exact ih _ (by omega) c hc
       . rw[zen (by omega)] at hc;cases hc
    unfold z23 at hc;rcases List.mem_cons.1 hc with rfl|hc
    . decide
    rcases List.mem_append.1 hc with hc|hc
    . exact key w.length 0 (by omega) c hc
    . rw[List.mem_singleton.1 hc];decide
   have rest:∀ v∈zcn op f,∀ c∈v,c≠10:=by
    intro v hv;simp only[zcn,List.mem_append] at hv;rcases hv with hv|hv|hv|hv
    . cases e:f.2.2.1<;>rw[e] at hv
      . cases hv
      . rw[cond_true,List.mem_singleton] at hv;subst hv;exact fun c hc=>(zve (ht e) c hc).2.2
    . cases e:f.2.2.2.1<;>rw[e] at hv
      . cases hv
      . rw[cond_true,List.mem_singleton] at hv;subst hv;intro c hc;rcases List.mem_cons.1 hc with rfl|hc
        . decide
        . exact (zvo _ c hc).2.2
    . cases e:f.2.2.2.2.1<;>rw[e] at hv
      . cases hv
      . rw[cond_true,List.mem_singleton] at hv;subst hv;exact fun c hc=>(z15b (hn e).1 c hc).2.2
    . cases e:f.2.2.2.2.2.1<;>rw[e] at hv
      . cases hv
      . rw[cond_true] at hv;obtain⟨w,_,rfl⟩:=List.mem_map.1 hv;exact q10 w
   intro c hc;rcases List.mem_append.1 hc with hc|hc
   . exact (z13s f hm c hc).2.2
   . unfold z5u at hc;obtain⟨v,hv,hcv⟩:=List.mem_flatten.1 hc;obtain⟨w,hw,rfl⟩:=List.mem_map.1 hv;rcases List.mem_cons.1 hcv with rfl|hcv
     . decide
     . exact rest w hw c hcv
theorem z1hp (s:List UInt8):z19h (ofStr s)=true:=by
 unfold z19h;rw[List.all_eq_true];intro n hn;simp only[ofStr,List.mem_map] at hn;obtain⟨u,_,rfl⟩:=hn;have:=z9m u;rw[zh (by omega),zh (by omega)];rfl
theorem z1im (N:Nat){o s:List UInt8}(h:o.length+s.length<=1000000000):z1z N ((),(ofStr o,())) s=some (((((s.length:Nat):Int)),(Go.Value.nilIface,())),(((),(ofStr (o++s),())),())):=by
 simp only[z1z];rw[z8 (zh (by rw[z3h,z3h];omega)),<- zck]
theorem z1mg (k:Nat){l:List OpT}(hl:l.length<=30)(hO:∀ op∈l,z13y op)(hw:∀ op∈l,op.2.2.2.2.1.length<=100000):z5h (k+1000000) l=some (scrR (zmc l)):=by
 simp only[z5h,zqj];rw[zf (zq (by omega))];rw[z3n (I:=fun (v:(Unit×(List Int×Unit))×Int)=>∃ (o:List UInt8) (i:Nat),v=(((),(ofStr o,())),(i:Int))/\i<=l.length/\o.length<=774601*i) (m:=fun v=>l.length - v.2.toNat) (R:=fun v=>some (match zmc (l.drop v.2.toNat) with|some ls=>(toStr v.1.2.1++zpb ls,true,())|none=>([],false,()))) ?_ (k+1000000) (((),(([]:List Int),())),0) ⟨[],0,rfl,by omega,by simp⟩ (by simp;omega)]
 . show some (match zmc l with|some ls=>(toStr []++zpb ls,true,())|none=>([],false,()))=_;cases zmc l<;>rfl
 rintro v r ⟨o,i,rfl,hi,ho⟩ hr;dsimp only at hr ⊢;rw[Int.toNat_natCast] at hr;simp only[zg9,Int.toNat_natCast];by_cases hlt:i<l.length
 . have hm:=zq3 l op0 i hlt;have hd:=z27 l op0 i hlt;show cond (decide ((i:Int)<((l.length:Nat):Int))) (cond (inR (i:Int) l.length) ((z9a (k+1000000) (l.getD i op0)).bind _) none) _=_;rw[z8 (zh (by omega)),z8 (z12 hlt),hd];generalize l.getD i op0=op at hm;rw[z1nj k (hw op hm) (hO op hm),Option.bind_some];simp only[zmc];cases hL:zfv op with
   | none=>rfl
   | some t =>
     have hs:=(z1ct hL (hO op hm)).1;simp only[z1fs,Bool.not_true,cond_false];rw[z1im _ (by omega),Option.bind_some];dsimp only;rw[z1im _ (by simp only[List.length_append,List.length_cons,List.length_nil];omega),Option.bind_some];dsimp only;rw[zz (by omega),hr _ ⟨(o++t)++[10],i+1,rfl,by omega,by simp only[List.length_append,List.length_cons,List.length_nil];omega⟩ (by dsimp only;omega)];dsimp only;rw[Int.toNat_natCast,z6a,z6a];cases zmc (l.drop (i+1)) with
     | none=>rfl
     | some ts=>simp[zpb]
 . rw[zf (zq (by omega)),z3z l (by omega)];simp only[zmc];have:z1m9 (((),(ofStr o,())),())=some (o,(((),((),())),())):=by
    unfold z1m9;rw[z8 (show (z19h (ofStr o) && decide ((ofStr o).length<=9223372036854775807))=true by rw[z1hp,zh (by rw[z3h];omega)];rfl)];show some (toStr (ofStr o),_)=_;rw[z6a]
   rw[this,Option.bind_some,z6a];simp[zpb]
def zq8:List UInt8->List UInt8×List UInt8×Bool
 | []=>([],[],false)
 | c::r=>if c=10 then ([],r,true) else (c::(zq8 r).1,(zq8 r).2.1,(zq8 r).2.2)
theorem z15i:∀ s:List UInt8,((zq8 s).2.2=false->Lib.indexByte s 10=-1/\(zq8 s).1=s/\(zq8 s).2.1=[])/\((zq8 s).2.2=true->Lib.indexByte s 10=(((zq8 s).1.length:Nat):Int)/\s=(zq8 s).1++10::(zq8 s).2.1)
 | []=>⟨fun _=>⟨rfl,rfl,rfl⟩,fun h=>by cases h⟩
 | c :: r=>by
   obtain⟨h1,h2⟩:=z15i r;unfold zq8 Lib.indexByte;by_cases h:c=10
   . rw[if_pos h,if_pos (by rw[beq_iff_eq];exact h)];exact⟨(fun e=>by cases e),fun _=>⟨rfl,by rw[h];rfl⟩⟩
   . rw[if_neg h,if_neg (by rw[beq_iff_eq];exact h)];refine⟨fun e=>?_,fun e=>?_⟩
     . obtain⟨a,b,d⟩:=h1 e;rw[a,if_pos (by rfl)];exact⟨rfl,by dsimp only;rw[b],d⟩
     . obtain⟨a,b⟩:=h2 e;rw[a,if_neg (by rw[beq_iff_eq];omega)];exact⟨by simp only[List.length_cons];omega,by dsimp only;rw[List.cons_append,<- b]⟩
theorem z1st (N:Nat){s:List UInt8}(hs:s.length<=1000000000):zjc N s [10]=some ((zq8 s).1,((zq8 s).2.1,((zq8 s).2.2,()))):=by
 have hidx:z1sn (s,([10],()))=some (Lib.indexByte s 10):=rfl;simp only[zjc,z4t,hidx,Option.bind_some];obtain⟨h1,h2⟩:=z15i s;generalize zq8 s=p at h1 h2 ⊢;obtain⟨p1,p2,p3⟩:=p;dsimp only at h1 h2 ⊢;cases p3 with
 | false =>
   obtain⟨a,b,d⟩:=h1 rfl;rw[a,zf (zq (by omega)),Option.bind_some,b,d]
 | true =>
   obtain⟨a,b⟩:=h2 rfl;have hl:s.length=p1.length+(p2.length+1):=by
    have:=congrArg List.length b;rw[List.length_append,List.length_cons] at this;exact this
   rw[a,z8 (zh (by omega)),z8 (zh ⟨by omega,by omega⟩)];rw[show ((([(10:UInt8)]:List UInt8).length:Nat):Int)=1 from rfl,zz (by omega),z8 (zh ⟨by omega,by omega⟩),Option.bind_some,Int.toNat_natCast,Int.toNat_natCast,z1k3,zva];dsimp only;have e1:s.take p1.length=p1:=by rw[b];exact List.take_left' rfl
   have e2:s.drop (p1.length+1)=p2:=by
    rw[b,show p1++10::p2=(p1++[10])++p2 by simp,List.drop_left' (by simp)]
   rw[e1,e2]
theorem z1gg:∀ (t r:List UInt8),(∀ c∈t,c≠10)->zq8 (t++10::r)=(t,r,true)
 | [],r,_=>by simp[zq8]
 | c::t,r,h=>by
   rw[List.cons_append,zq8,if_neg (h c List.mem_cons_self),z1gg t r (fun d hd=>h d (List.mem_cons_of_mem _ hd))]
def FitG (op:OpT):Prop:=op.2.2.2.2.1.length<=70/\z13y op
end
end Go.Proofs.YtkkkgfmjjkpjdaaGreatDoorLg
set_option linter.all false
set_option maxRecDepth 100000
namespace Go.Proofs.YtkkkgfmjjkpjdaaGreatDoorLg
noncomputable section
open Go Go.Lift Go.Lib Go.Proofs.YtkkkgfmjjkpjdaaGreatDoorPx
theorem z1f8 (k:Nat){l:List OpT}(hl:l.length<=30)(hO:∀ op∈l,z13y op)(hw:∀ op∈l,op.2.2.2.2.1.length<=100000):z32 (k+1000000) l=some (scrR (zmc l)):=by
 simp only[z32,zf8];rw[zf (zq (by omega))];rw[z3n (I:=fun (v:List UInt8×Int)=>∃ (o:List UInt8) (i:Nat),v=(o,(i:Int))/\i<=l.length/\o.length<=774601*i) (m:=fun v=>l.length - v.2.toNat) (R:=fun v=>some (match zmc (l.drop v.2.toNat) with|some ls=>(v.1++zpb ls,true,())|none=>([],false,()))) ?_ (k+1000000) ([],0) ⟨[],0,rfl,by omega,by simp⟩ (by simp;omega)]
 . show some (match zmc l with|some ls=>([]++zpb ls,true,())|none=>([],false,()))=_;cases zmc l<;>rfl
 rintro v r ⟨o,i,rfl,hi,ho⟩ hr;dsimp only at hr ⊢;rw[Int.toNat_natCast] at hr ⊢;simp only[z92,Int.toNat_natCast];by_cases hlt:i<l.length
 . have hm:=zq3 l op0 i hlt;have hd:=z27 l op0 i hlt;show cond (decide ((i:Int)<((l.length:Nat):Int))) (cond (inR (i:Int) l.length) ((z1p (k+1000000) (l.getD i op0)).bind _) none) _=_;rw[z8 (zh (by omega)),z8 (z12 hlt),hd];generalize l.getD i op0=op at hm;rw[z14b k (hw op hm) (hO op hm),Option.bind_some];simp only[zmc];cases hL:zfv op with
   | none=>rfl
   | some t =>
     have hs:=(z1ct hL (hO op hm)).1;show cond (decide (o.length+t.length<=9223372036854775807)) (cond (decide ((o++t).length+1<=9223372036854775807)) (r ((o++t)++[10],IntKind.wrap .i64 ((i:Int)+1))) none) none=_;rw[z8 (zh (by omega)),z8 (zh (by rw[List.length_append];omega)),zz (by omega),hr _ ⟨(o++t)++[10],i+1,rfl,by omega,by simp only[List.length_append,List.length_cons,List.length_nil];omega⟩ (by dsimp only;omega)];dsimp only;rw[Int.toNat_natCast];cases zmc (l.drop (i+1)) with
     | none=>rfl
     | some ts=>simp[zpb]
 . rw[zf (zq (by omega)),z3z l (by omega)];simp[zmc,zpb]
def z1kz (s:List UInt8):Option OpT:=match z5j (0+1000000) s with
 | some y=>cond y.2.1 (some y.1) none
 | none=>none
theorem z1hl {s:List UInt8}(hs:s.length<=2000):IsO (z1kz s) s:=by
 obtain⟨o,h1,h2⟩:=z1jg 0 hs;have:z1kz s=o:=by
  unfold z1kz;rw[h1];cases o<;>rfl
 rw[this];exact h2
theorem z1n1 (k:Nat){s:List UInt8}(hs:s.length<=2000):z5j (k+1000000) s=some (opR (z1kz s)):=by
 obtain⟨o,h1,h2⟩:=z1jg k hs;rw[h1,z1qx h2 (z1hl hs)]
theorem z1fa (k:Nat){s:List UInt8}(hs:s.length<=2000):z2t (k+1000000) s=some (opR (z1kz s)):=by
 obtain⟨o,h1,h2⟩:=z1he k hs;rw[h1,z1qx h2 (z1hl hs)]
abbrev RdO:=List OpT×(Int×(Int×Unit))×Unit
def z107:Nat->List UInt8->List OpT->RdO
 | 0,_,l=>(l,(0,(0,())),())
 | f+1,s,l=>if s=[] then (l,(0,(0,())),()) else
   match z1kz (zq8 s).1,(zq8 s).2.2 with
   | some op,true=>z107 f (zq8 s).2.1 (l++[op])
   | _,_=>([],(2,(((l.length:Nat):Int),())),())
theorem zq7 (s:List UInt8):(zq8 s).1.length<=s.length/\((zq8 s).2.2=true->(zq8 s).2.1.length<s.length):=by
 obtain⟨h1,h2⟩:=z15i s;cases h:(zq8 s).2.2 with
 | false=>rw[(h1 h).2.1];exact⟨Nat.le_refl _,fun e=>by cases e⟩
 | true =>
   have:=congrArg List.length (h2 h).2;rw[List.length_append,List.length_cons] at this;exact⟨by omega,fun _=>by omega⟩
theorem z14d:∀ (f f':Nat) (s:List UInt8) (l:List OpT),s.length<=f->s.length<=f'->z107 f s l=z107 f' s l
 | 0,0,s,l,_,_=>rfl
 | 0,f'+1,s,l,h,_=>by
   have:s=[]:=List.length_eq_zero_iff.1 (by omega);rw[z107,z107,if_pos this]
 | f+1,0,s,l,_,h=>by
   have:s=[]:=List.length_eq_zero_iff.1 (by omega);rw[z107,z107,if_pos this]
 | f + 1,f'+1,s,l,h,h'=>by
   rw[z107,z107];by_cases e:s=[]
   . rw[if_pos e,if_pos e]
   rw[if_neg e,if_neg e];have hc:=(zq7 s).2;cases z1kz (zq8 s).1 with
   | none=>rfl
   | some op =>
     cases hq:(zq8 s).2.2 with
     | false=>rfl
     | true=>have:=hc hq;exact z14d f f' _ _ (by omega) (by omega)
def zje (s:List UInt8)(l:List OpT):RdO:=z107 s.length s l
theorem zs3 {s:List UInt8}{l:List OpT}(h:s≠[]):zje s l=(match z1kz (zq8 s).1,(zq8 s).2.2 with
 | some op,true=>zje (zq8 s).2.1 (l++[op])
 | _,_=>([],(2,(((l.length:Nat):Int),())),())):=by
 unfold zje;rw[z14d s.length (s.length+1) s l (Nat.le_refl _) (by omega),z107,if_neg h];have hc:=(zq7 s).2;cases z1kz (zq8 s).1 with
 | none=>rfl
 | some op =>
   cases hq:(zq8 s).2.2 with
   | false=>rfl
   | true=>have:=hc hq;exact z14d _ _ _ _ (by omega) (by omega)
theorem z1hf (l:List OpT):zje [] l=(l,(0,(0,())),()):=rfl
theorem z1gf:∀ t:List UInt8,(∀ c∈t,c≠10)->zq8 t=(t,[],false)
 | [],_=>rfl
 | c::t,h=>by rw[zq8,if_neg (h c List.mem_cons_self),z1gf t (fun d hd=>h d (List.mem_cons_of_mem _ hd))]
theorem z1fg:∀ (f:Nat) (s:List UInt8) (l:List OpT),s.length<=2000->(∀ op∈l,op.2.2.2.2.1.length<=100000)->(l.length+s.length<=100000)->(∀ op∈(z107 f s l).1,op.2.2.2.2.1.length<=100000)/\(z107 f s l).1.length<=100000
 | 0,s,l,_,hl,hn=>⟨hl,by rw[z107];dsimp only;omega⟩
 | f + 1,s,l,hs,hl,hn=>by
   rw[z107];by_cases e:s=[]
   . rw[if_pos e];exact⟨hl,by dsimp only;omega⟩
   rw[if_neg e];have hc:=zq7 s;have hi:=z1hl (s:=(zq8 s).1) (by omega);cases hp:z1kz (zq8 s).1 with
   | none=>exact⟨by simp,by simp⟩
   | some op =>
     cases hq:(zq8 s).2.2 with
     | false=>exact⟨by simp,by simp⟩
     | true =>
       have:=hc.2 hq;rw[hp] at hi;obtain⟨h3,h4⟩:=hi.1 op rfl;refine z1fg f _ _ (by omega) (fun q hq'=>?_) (by simp only[List.length_append,List.length_cons,List.length_nil];omega);rcases List.mem_append.1 hq' with hq'|hq'
       . exact hl q hq'
       . rw[List.mem_singleton.1 hq'];exact z1d2 h3 h4
def z1fe (s:List UInt8)(x:RdO):RdO:=if 1024<s.count 10 then ([],(3,(1024,())),()) else x
theorem z1mu (k:Nat){s:List UInt8}(hs:s.length<=2000):zed (k+1000000) s=some (z1fe s (zje s [])):=by
 simp only[zed,znw,zza];unfold z1fe Lib.countByte;by_cases hc:1024<s.count 10
 . rw[z8 (zh (by omega)),if_pos hc]
 rw[zf (zq (by omega)),if_neg hc];rw[z3n (I:=fun (v:List UInt8×List OpT)=>v.1.length<=s.length/\v.2.length+v.1.length<=s.length) (m:=fun v=>v.1.length) (R:=fun v=>some (zje v.1 v.2)) ?_ (k+1000000) (s,[]) ⟨Nat.le_refl _,by simp⟩ (by dsimp only;omega)];rintro⟨t,l⟩ r ⟨ht,hl⟩ hr;dsimp only at ht hl hr ⊢;simp only[znu,znv];by_cases e:t=[]
 . subst e;rfl
 have hne:(t == ([]:List UInt8))=false:=by rw[beq_eq_false_iff_ne];exact e
 have hcl:=zq7 t;rw[hne,Bool.not_false,cond_true,z1st _ (by omega),Option.bind_some,zs3 e];dsimp only;rw[z1n1 k (by omega),Option.bind_some];cases z1kz (zq8 t).1 with
 | none=>rfl
 | some op =>
   simp only[opR,cond_true];cases hq:(zq8 t).2.2 with
   | false=>rfl
   | true =>
     have:=hcl.2 hq;rw[cond_true,z8 (zh (by omega))];exact hr _ ⟨by dsimp only;omega,by simp only[List.length_append,List.length_cons,List.length_nil];omega⟩ (by dsimp only;omega)
theorem z1f9 (k:Nat) {s:List UInt8} (hs:s.length<=2000):z5z (k+1000000) s=some (z1fe s (zje s [])):=by
 have cnt:∀ (k0:Int->Option RdO),zbl (k+1000000) s ((0:Int),((0:Int),())) 0 0 k0=k0 ((s.count 10:Nat):Int):=fun k0=>by
  simp only[zbl];rw[z3n (I:=fun (v:Int×Int)=>∃ (n i:Nat),v=((n:Int),(i:Int))/\i<=s.length/\n<=i) (m:=fun v=>s.length - v.2.toNat) (R:=fun v=>k0 (((v.1.toNat+(s.drop v.2.toNat).count 10:Nat)):Int)) ?_ (k+1000000) (0,0) ⟨0,0,rfl,by omega,by omega⟩ (by simp;omega)]
  . simp
  rintro v r ⟨n,i,rfl,hi,hn⟩ hr;dsimp only at hr ⊢;rw[Int.toNat_natCast] at hr ⊢;rw[Int.toNat_natCast];simp only[zbi,zbk,Int.toNat_natCast];by_cases hlt:i<s.length
  . have q10:((((s.getD i 0).toNat:Nat):Int) == 10)=decide (s.getD i 0=10):=by rw[Bool.eq_iff_iff,beq_iff_eq,decide_eq_true_eq,<- UInt8.toNat_inj];show _ ↔ (s.getD i 0).toNat=10;omega
    rw[z8 (zh (by omega)),z8 (z12 hlt),q10,z27 s 0 i hlt,List.count_cons];by_cases h:s.getD i 0=10
    . rw[z8 (zh h),zz (by omega),zz (by omega),hr _ ⟨n+1,i+1,rfl,by omega,by omega⟩ (by dsimp only;omega)];dsimp only;rw[Int.toNat_natCast,Int.toNat_natCast,h];congr 2;simp;omega
    . rw[zf (zq h),zz (by omega),hr _ ⟨n,i+1,rfl,by omega,by omega⟩ (by dsimp only;omega)];dsimp only;rw[Int.toNat_natCast,Int.toNat_natCast,if_neg (by rw[beq_iff_eq];exact h)];exact congrArg k0 rfl
  . rw[zf (zq (by omega)),z3z s (by omega)];simp
 simp only[z5z];rw[cnt];unfold z1fe;by_cases hc:1024<s.count 10
 . rw[z8 (zh (by omega)),if_pos hc]
 rw[zf (zq (by omega)),if_neg hc];simp only[zjo];rw[z3n (I:=fun (v:List OpT×Int×Int)=>∃ (f i:Nat),v.2=((f:Int),(i:Int))/\f<=i/\i<=s.length/\v.1.length<=f/\∀ c∈(s.drop f).take (i - f),c≠10) (m:=fun v=>s.length - v.2.2.toNat) (R:=fun v=>some (zje (s.drop v.2.1.toNat) v.1)) ?_ (k+1000000) ([],(0,0)) ⟨0,0,rfl,by omega,by omega,by simp,by simp⟩ (by simp;omega)]
 . rfl
 rintro⟨l,v⟩ r ⟨f,i,hv,hfi,hi,hl,hno⟩ hr;dsimp only at hv hl hr ⊢;subst hv;dsimp only at hr ⊢;rw[Int.toNat_natCast] at hr ⊢;simp only[zbh,zbj,Int.toNat_natCast];by_cases hlt:i<s.length
 case neg =>
  have hie:i=s.length:=by omega
  rw[zf (zq (by omega))];rw[List.take_of_length_le (by rw[List.length_drop];omega)] at hno;by_cases hf:f<s.length
  . have hne:s.drop f≠[]:=fun e=>by have:=congrArg List.length e;rw[List.length_drop,List.length_nil] at this;omega
    rw[z8 (zh (by omega)),zs3 hne,z1gf _ hno];cases z1kz (s.drop f)<;>rfl
  . rw[zf (zq (by omega)),z3z s (by omega),z1hf]
 have hci:(s.drop f).take (i+1 - f)=(s.drop f).take (i - f)++[s.getD i 0]:=by
  have:=zjb (s.drop f) 0 (i - f) (by rw[List.length_drop];omega);rw[z6w,show f+(i - f)=i by omega] at this;rw[show i+1 - f=i - f+1 by omega,this]
 rw[z8 (zh (by omega)),z8 (z12 hlt)];have q10a:((((s.getD i 0).toNat:Nat):Int) == 10)=decide (s.getD i 0=10):=by rw[Bool.eq_iff_iff,beq_iff_eq,decide_eq_true_eq,<- UInt8.toNat_inj];show _ ↔ (s.getD i 0).toNat=10;omega
 have q10:((((s.getD i 0).toNat:Nat):Int) != 10)=!decide (s.getD i 0=10):=by rw[bne,q10a]
 rw[q10];by_cases h:s.getD i 0=10
 case neg =>
  rw[zq h,Bool.not_false,cond_true,zz (by omega)];rw[hr _ ⟨f,i+1,rfl,by omega,by omega,hl,fun c hc=>by
   rw[hci] at hc;rcases List.mem_append.1 hc with hc|hc
   . exact hno c hc
   . rw[List.mem_singleton.1 hc];exact h⟩ (by dsimp only;rw[Int.toNat_natCast];omega)]
  dsimp only;rw[Int.toNat_natCast]
 have hsp:s.drop f=(s.drop f).take (i - f)++10::s.drop (i+1):=by
  have h1:=(List.take_append_drop (i - f) (s.drop f)).symm;rw[List.drop_drop,show f+(i - f)=i by omega,z27 s 0 i hlt,h] at h1;exact h1
 have hcut:Lift.cut s f i=(s.drop f).take (i - f):=by
  have:=zv9 s f (i - f);rw[show f+(i - f)=i by omega] at this;exact this
 have htl:((s.drop f).take (i - f)).length<=2000:=by rw[List.length_take,List.length_drop];omega
 have hne:s.drop f≠[]:=fun e=>by have:=congrArg List.length e;rw[List.length_drop,List.length_nil] at this;omega
 have hcl:=z1gg _ (s.drop (i+1)) hno;rw[<- hsp] at hcl;rw[zh h,Bool.not_true,cond_false,z8 (zh ⟨by omega,by omega⟩),z8 (zh ⟨by omega,by omega⟩),hcut,z1fa k htl,Option.bind_some,zs3 hne,hcl];dsimp only;cases z1kz ((s.drop f).take (i - f)) with
 | none=>rfl
 | some op =>
   simp only[opR,Bool.not_true,cond_false];rw[z8 (zh (by omega)),zz (by omega),hr _ ⟨i+1,i+1,rfl,by omega,by omega,by simp only[List.length_append,List.length_cons,List.length_nil];omega,by simp⟩ (by dsimp only;rw[Int.toNat_natCast];omega)];dsimp only;rw[Int.toNat_natCast]
theorem z1h4 (k:Nat) {l:List OpT} {s:List UInt8} (hl:l.length<=30\/1024<l.length) (hs:s.length<=1500) (hG:∀ op∈l,FitG op) :
 ((z5h (k+1000000) l).bind fun y =>
   (z32 (k+1000000) l).bind fun y1 =>
   (zed (k+1000000) s).bind fun y2 =>
   (z5z (k+1000000) s).bind fun y3 =>
   z3j (k+1000000) y.1 y.2.1 y1.1 y1.2.1 y2.1 y2.2.1 y3.1 y3.2.1
   (fun x42=>some x42)
   (z5a (k+1000000) y2.1 y3.1 (0:Int)
    (fun x43=>some x43)
    ((z45 (k+1000000)).bind fun y4 =>
      some y4)))=some true:=by
 have hw:=z1c8 k;have hO:∀ op∈l,z13y op:=fun op h=>(hG op h).2
 have hS:∃ x,z5h (k+1000000) l=some x/\z32 (k+1000000) l=some x:=by
  rcases hl with hl|hl
  . exact⟨_,z1mg k hl hO (fun op h=>by have:=(hG op h).1;omega),z1f8 k hl hO (fun op h=>by have:=(hG op h).1;omega)⟩
  . refine⟨([],false,()),?_,?_⟩
    . simp only[z5h];rw[z8 (zh (by omega))]
    . simp only[z32];rw[z8 (zh (by omega))]
 obtain⟨x,h1,h2⟩:=hS;rw[h1,Option.bind_some,h2,Option.bind_some,z1mu k (by omega),Option.bind_some,z1f9 k (by omega),Option.bind_some,hw];have hall:(∀ op∈(z1fe s (zje s [])).1,op.2.2.2.2.1.length<=100000)/\(z1fe s (zje s [])).1.length<=100000:=by
  unfold z1fe;split
  . exact⟨by simp,by simp⟩
  . exact z1fg s.length s [] (by omega) (by simp) (by simp;omega)
 generalize z1fe s (zje s [])=z at hall;obtain⟨c,g,u⟩:=z;dsimp only at hall ⊢;simp only[z3j,z5b,z5a];rw[beq_self_eq_true,Bool.not_true,cond_false,beq_self_eq_true,Bool.not_true,cond_false,z1q6 (by rfl),Bool.not_true,cond_false,zf (by simp)];rw[z3n (I:=fun (v:Int)=>∃ i:Nat,v=(i:Int)/\i<=c.length) (m:=fun v=>c.length - v.toNat) (R:=fun _=>some true) ?_ (k+1000000) 0 ⟨0,rfl,by omega⟩ (by simp;omega)];rintro v r ⟨i,rfl,hi⟩ hr;rw[Int.toNat_natCast] at hr;simp only[z59,Int.toNat_natCast];by_cases hlt:i<c.length
 . have hm:=hall.1 _ (zq3 c op0 i hlt);rw[z8 (zh (by omega)),z8 (z12 hlt),z8 (z12 hlt)];show ((z3g (k+1000000) (c.getD i op0) (c.getD i op0)).bind _)=_;rw[z1mh _ (by omega) (by omega),Option.bind_some,zf (by rfl),zz (by omega)];exact hr _ ⟨i+1,rfl,by omega⟩ (by simp;omega)
 . rw[zf (zq (by omega))];rfl
theorem z1mf (k:Nat){l:List OpT}{s:List UInt8}:z28 (k+1000000) l s=some true:=by
 have hw:=z1c8 k;simp only[z28,z5e];generalize hK:((z5h (k+1000000) l).bind _)=K;have hend:(l.length<=30\/1024<l.length)->s.length<=1500->(∀ op∈l,FitG op)->K=some true:=fun h1 h2 hG=>by rw[<- hK];exact z1h4 k h1 h2 hG
 clear hK;have loop:(l.length<=30\/1024<l.length)->l.length<=1100->s.length<=1500->z5c (k+1000000) l s 0 (fun x41=>some x41) K=some true:=fun h1 hl1 h2=>by
  simp only[z5c];have key:=zme (step:=fun (v:Int) r=>z3i (k+1000000) l s v (fun i=>(r i)) (fun x41=>some x41) K) (I:=fun (v:Int)=>∃ i:Nat,v=(i:Int)/\i<=l.length/\∀ op∈l.take i,FitG op) (m:=fun v=>l.length - v.toNat) (p:=fun o=>o=some true) ?_ (k+1000000) 0 ⟨0,rfl,by omega,by simp⟩ (by simp;omega)
  . exact key
  rintro v r ⟨i,rfl,hi,ht⟩ hr;rw[Int.toNat_natCast] at hr;simp only[z3i,Int.toNat_natCast];by_cases hlt:i<l.length
  case neg =>
   rw[zf (zq (by omega))];exact hend h1 h2 (by rw[List.take_of_length_le (by omega)] at ht;exact ht)
  rw[z8 (zh (by omega)),z8 (z12 hlt)];have htk:=zjb l op0 i hlt;show ((z5l (k+1000000) (l.getD i op0)).bind _)=some true;generalize l.getD i op0=op at htk;obtain⟨b,hb,hb'⟩:=z1q0 (k+1000000) (op:=op) (by omega);rw[hb,Option.bind_some];cases b with
  | true=>rw[hw];rfl
  | false =>
    obtain⟨g1,g2,g3,g4⟩:=hb' rfl;have hO:z13y op:=fun w hw=>by rcases g4 w hw with h|h<;>omega
    rw[cond_false,zz (by omega)];refine hr _ ⟨i+1,rfl,by omega,fun q hq=>?_⟩ (by simp;omega);rw[htk] at hq;rcases List.mem_append.1 hq with hq|hq
    . exact ht q hq
    . rw[List.mem_singleton.1 hq];exact⟨g2,hO⟩
 simp only[z5d];by_cases h1:30<l.length
 . rw[z8 (zh (by omega))];by_cases h2:l.length<=1024
   . rw[z8 (zh (by omega)),cond_true,hw];rfl
   rw[zf (zq (by omega))];by_cases h3:1100<l.length
   . rw[z8 (zh (by omega)),cond_true,hw];rfl
   rw[zf (zq (by omega))];by_cases h4:1500<s.length
   . rw[zh (by omega),cond_true,hw];rfl
   . rw[zq (by omega),cond_false];exact loop (.inr (by omega)) (by omega) (by omega)
 . rw[zf (zq (by omega)),zf (zq (by omega))];by_cases h4:1500<s.length
   . rw[zh (by omega),cond_true,hw];rfl
   . rw[zq (by omega),cond_false];exact loop (.inl (by omega)) (by omega) (by omega)
end
end Go.Proofs.YtkkkgfmjjkpjdaaGreatDoorLg
