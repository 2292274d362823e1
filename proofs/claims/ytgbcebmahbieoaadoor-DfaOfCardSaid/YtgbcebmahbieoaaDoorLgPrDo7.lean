import Derived.Test.YtgbcebmahbieoaaDoorLgPrDo6
set_option linter.all false
set_option maxRecDepth 100000
namespace Go.Proofs.YtgbcebmahbieoaaDoorLg
noncomputable section
open Go Go.Lift Go.Proofs.YtgbcebmahbieoaaDoorPx
theorem z17k {P:Par}(hP:PokM P):∀ (f:Nat) (st:StM),KnM P st.1 st.2.1->(∀ r∈st.2.2,r.length=P.rd.length)->st.2.2.length+f<=130->KnM P (zlw P f st).1 (zlw P f st).2.1/\(∀ r∈(zlw P f st).2.2,r.length=P.rd.length)/\(zlw P f st).2.2.length<=130
 | 0,st,h1,h2,h3=>⟨h1,h2,h3⟩
 | f + 1,st,h1,h2,h3=>by
   rw[zlw];cases decide (st.2.2.length<=st.1.length)
   . exact⟨h1,h2,by show st.2.2.length<=130;omega⟩
   . obtain⟨g1,g2,g3⟩:=zoq hP h1;refine z17k hP f _ g1 (fun r hr=>?_) (by omega);have hrr:=(z17n (z13v hP st.1 st.2.2.length) P.rd (st.1,st.2.1) [] h1).2.2;rcases List.mem_append.1 hr with hr|hr
     . exact h2 r hr
     . rw[List.mem_singleton.1 hr,hrr];simp
theorem zu0 {N:Nat}(a:List Bool)(ha:a.length<N)(hl:a.length<=1000000):z3q N a a=some true:=by
 unfold z3q;rw[z10h,z27 rfl,Bool.not_true,cond_false];unfold zar;rw[z17f (bad:=fun _=>false) (n:=a.length) (F:=some false) (T:=some true) ?_ ?_ ha]
 . rw[List.any_eq_false.2 (fun _ _=>by simp)];rfl
 . intro i r hi;unfold z41;rw[z27 (by omega),z19 hi,Int.toNat_natCast,z1a (by omega),beq_self_eq_true];rfl
 . intro r;unfold z41;rw[z32 (by omega)];rfl
theorem zvx {N:Nat}(a:List (List Int))(ha:a.length<N)(hl:a.length<=1000000)(hr:∀ r∈a,r.length<N/\r.length<=1000000):z3p N a a=some true:=by
 unfold z3p;rw[z10h,z27 rfl,Bool.not_true,cond_false];unfold zao;rw[z17f (bad:=fun _=>false) (n:=a.length) (F:=some false) (T:=some true) ?_ ?_ ha]
 . rw[List.any_eq_false.2 (fun _ _=>by simp)];rfl
 . intro i r hi;have hm:=hr (a.getD i []) (by rw[List.getD_eq_getElem?_getD,List.getElem?_eq_getElem hi];exact List.getElem_mem hi);unfold z3z;rw[z27 (by omega),z19 hi,Int.toNat_natCast,z1a (by omega),zmc _ _ hm.1 hm.2,z27 rfl];rfl
 . intro r;unfold z3z;rw[z32 (by omega)];rfl
theorem zrr {N:Nat}(d:DfT)(h1:d.2.1.length<N)(h2:d.2.2.1.length<N)(h3:d.2.2.2.1.length<N)(hN:N<=1000000)(hr:∀ r∈d.2.2.2.1,r.length<N):z6l N d d=some true:=by
 unfold z6l;rw[beq_self_eq_true,cond_true,zu0 _ h1 (by omega),Option.bind_some,cond_true,zmc _ _ h2 (by omega),z27 rfl,Option.bind_some,cond_true,zvx _ h3 (by omega) (fun r hm=>⟨hr r hm,by have:=hr r hm;omega⟩)];rfl
theorem z1b9 (N:Nat)(p:SpT)(hN:302<=N)(hN2:N<=100000):∃ b,z5x N p 7=some b/\(b=true->p.1.length<=7/\z1a0 N p):=by
 unfold z5x z8r z8q;by_cases h1:7<p.1.length
 . rw[z27 (p:=(7:Int)<((p.1.length:Nat):Int)) (by omega)];exact⟨false,rfl,fun h=>by cases h⟩
 rw[z32 (p:=(7:Int)<((p.1.length:Nat):Int)) (by omega)];by_cases h2:7<p.2.2.2.2.1.length
 . rw[z27 (p:=(7:Int)<((p.2.2.2.2.1.length:Nat):Int)) (by omega)];exact⟨false,rfl,fun h=>by cases h⟩
 rw[z32 (p:=(7:Int)<((p.2.2.2.2.1.length:Nat):Int)) (by omega)];by_cases h3:40<p.2.2.1.length
 . rw[z27 (p:=(40:Int)<((p.2.2.1.length:Nat):Int)) (by omega)];exact⟨false,rfl,fun h=>by cases h⟩
 rw[z32 (p:=(40:Int)<((p.2.2.1.length:Nat):Int)) (by omega)];by_cases h4:40<p.2.2.2.1.length
 . rw[z27 (p:=(40:Int)<((p.2.2.2.1.length:Nat):Int)) (by omega)];exact⟨false,rfl,fun h=>by cases h⟩
 rw[z32 (p:=(40:Int)<((p.2.2.2.1.length:Nat):Int)) (by omega)];simp only[cond_false];unfold ze0;rw[z17f (bad:=fun i=>decide (40<(p.2.2.2.2.1.getD i []).length)) (n:=p.2.2.2.2.1.length) (F:=some false) (T:=some true) ?_ ?_ (by omega)]
 . cases hb:(List.range p.2.2.2.2.1.length).any fun i=>decide (40<(p.2.2.2.2.1.getD i []).length)
   . refine⟨true,rfl,fun _=>⟨by omega,by omega,by omega,by omega,by omega,⟨by omega,by omega⟩,⟨by omega,by omega⟩,fun l hl=>?_⟩⟩;obtain⟨i,hi,e⟩:=List.getElem_of_mem hl;rw[List.any_eq_false] at hb;have:=hb i (List.mem_range.2 hi);rw[List.getD_eq_getElem?_getD,List.getElem?_eq_getElem hi] at this;have:=of_decide_eq_false (Bool.eq_false_iff.2 this);rw[<- e];simp only[Option.getD_some] at this;omega
   . exact⟨false,rfl,fun h=>by cases h⟩
 . intro i r hi;unfold z5t;rw[z27 (p:=(i:Int)<((p.2.2.2.2.1.length:Nat):Int)) (by omega),z19 hi,Int.toNat_natCast,z1a (i:=i) (by omega)];simp only[cond_true];by_cases h:40<(p.2.2.2.2.1.getD i []).length
   . rw[z27 (p:=(40:Int)<(((p.2.2.2.2.1.getD i []).length:Nat):Int)) (by omega),z27 h]
   . rw[z32 (p:=(40:Int)<(((p.2.2.2.2.1.getD i []).length:Nat):Int)) (by omega),z32 h]
 . intro r;unfold z5t;rw[z32 (by omega)];rfl
theorem z13b (m:Int):∀ (ls:List (List Int)),zrx m ls=true->∀ i,i<ls.length->zkx m 0 (ls.getD i [])=true
 | [],_,i,hi=>by cases hi
 | l::ls,h,i,hi=>by
   rw[zrx,Bool.and_eq_true] at h;cases i with
   | zero=>exact h.1
   | succ i=>exact z13b m ls h.2 i (by simpa using hi)
theorem z19b (p:SpT)(hs:∀ x∈p.1,SetOk x):z4e 2000 p=some true:=by
 have hw:z4d 2000=some true:=z14k 1600;obtain⟨b,hb,hsm⟩:=z1b9 2000 p (by omega) (by omega);rw[z4e,hb,hw];simp only[Option.bind_some];cases b
 case false=>rfl
 obtain⟨h7,hok⟩:=hsm rfl;have e1:=zzp hok;have e2:=zw4 hok;simp only[Bool.not_true,cond_false];cases hk:okF p
 . have g1:zqg 2000 p=some ((0,([],([],([],())))),(7,())):=by
    unfold zqg;rw[e1,hk];rfl
   have g2:z5e 2000 p 4096=some ((0,([],([],([],())))),(7,())):=by
    unfold z5e;rw[e2,hk];rfl
   rw[g1,g2,Option.bind_some,Option.bind_some,zrr _ (by simp) (by simp) (by simp) (by omega) (fun r hr=>by cases hr)];rfl
 . have hf:FewP p:=by
    have hk':=hk;unfold okF at hk';simp only[Bool.and_eq_true,decide_eq_true_eq] at hk';obtain⟨k1,_,k3,k4,k5⟩:=hk';exact⟨h7,k1,fun i hi=>z13b _ _ k3 i (by omega),k4,k5,hs⟩
   have hP:=zur hf;have hcl:=zgb p.1;have h0:KnM (z2d p) [] [p.2.1]:=⟨.nil,fun m hm=>(by cases hm),rfl⟩
   obtain⟨r1,r2,r3⟩:=z17k hP 130 ([],([p.2.1],[])) h0 (fun r hr=>by cases hr) (Nat.le_refl _);have hend:z1k0 p=zlw (z2d p) 130 ([],([p.2.1],[])):=rfl;rw[<- hend] at r1 r2 r3;have hrl:(z2d p).rd.length<=256:=by simp[z2d];omega
   have hle:=r1.le hP;have hlen:=r1.len;rw[z1cj 1300 hf (by rw[e1,hk]),z1bj 1300 hf (by rw[e2,hk])];unfold z21m;rw[Option.bind_some,Option.bind_some,zrr (zvd p (z1k0 p).2.1 (z1k0 p).2.2) (by show (z1k0 p).2.1.length<2000;omega) (by show (ofB p.1).length<2000;rw[zoz];omega) (by show (z1k0 p).2.2.length<2000;omega) (by omega) (fun r hr=>by rw[r2 r hr];omega)];rfl
end
end Go.Proofs.YtgbcebmahbieoaaDoorLg
