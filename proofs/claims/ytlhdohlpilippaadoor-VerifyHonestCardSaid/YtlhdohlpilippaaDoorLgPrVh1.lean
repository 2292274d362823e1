import Derived.Test.YtlhdohlpilippaaDoorLgW
import Derived.Shelf.SlicesE.Clone
import Derived.Below
import Derived.WalkKit
import Derived.OwnWalk
import Derived.Shelf.RegionOpenPlain
import Derived.Deep.LoopGhost
import Derived.Lib.Walk
import Derived.Lib.SliceRun
set_option linter.all false
namespace Go.Lift
noncomputable section
open Go Go.Shelf Go.Proofs Go.Lib Go.RowKit
set_option maxHeartbeats 2000000 in
set_option maxRecDepth 100000 in
theorem zob {P:Program}{ρ:Ren}(L:SlLaysE0.n41 P ρ)(i0:TypeInfo)(z:Value)(size bytes:Nat)(hi:P.info? (ρ.t 23)=some i0)(hz0:i0.zero=some z)(hz1:i0.size=size)(hz2:i0.bytes=bytes)
 (hzs:z.cells.size=size) (hsz:0<size) (z23:∀ w,(Go.sizeOf (ρ.t 23)).run P w=.ok size w) (ad:Addr) (n c:Nat) (news:List Value) (w:World) (hl:news.length=n*size) (hn:n<=maxLen) (hbig:n*bytes<=140737488355328)
 (hc:∀ j u,news[j]?=some u->w.cell? (ad.add j)=some u) (h1:∀ u∈news,u.oneCell'=true) :
 Calls P (ρ.f 41) #[.slice (some ad) n c] w fun e w'=>∃ v',e=.returned v'/\w'.ownsRow w.heap.size (ρ.t 23) size v' n news/\Below w.heap.size w w':=by
 have mixed:=L.mixed;have t4:=L.t4;have a4:=L.a4;have z4:=L.z4;have v4:=L.v4;have t22:=L.t22;have a22:=L.a22;have z22:=L.z22;have v22:=L.v22;have q22:∀ (w:World) (a:Option Addr) (n c n' c':Nat),(binOp .eql (ρ.t 22) (.slice a n c) (.slice none n' c')).run P w=.ok (.bool a.isNone) w:=fun w a n c n' c'=>Lib.run_eql_slice_nil w _ _ a n c n' c' L.t22
 have u22:∀ w,Sem.run P (underlying (ρ.t 22)) w=.ok (TypeDesc.slice (ρ.t 23)) w:=run_underlying t22;have A:Aside (∀ j u,news[j]?=some u->w.cell? (ad.add j)=some u):=hc;clear hc;obtain⟨_,_,FG⟩:=L.f41
 go_enter FG,SlBodyN.n41_ntmps ρ
 go_wp2_with (at_builtin;go_loud (refine wpList_append_own _ rfl _ _ (ρ.t 22) rfl w.heap.size (ρ.t 23) i0 z size bytes t22 hi hz0 hz1 hz2 hzs hsz _ _ _ rfl (World.ownsRow_made w #[] 0 (Nat.le_refl _) (Nat.zero_le _) (by simp)) ad n c news rfl ?k1 ?k2 ?k3 ?k4 ?k5 ?k6 ?_))
 case k1=>exact hl
 case k2=>exact fun j u hj=>Lib.cell?_alloc_some _ (A.out j u hj)
 case k3=>exact h1
 case k4=>rw[Nat.zero_add];exact hn
 case k5=>rw[Nat.zero_add];exact hbig
 case k6=>simp
 intro v' w1 hown hgrow hnil
 go_wp2
 go_ret
 exact⟨v',rfl,by simpa using hown,((Below.refl _ w).alloc (Nat.le_refl _) _).grown hgrow (by simp) (by intro k hk;simp[Value.ownBlock] at hk;omega)⟩
def z10k (ee:TyI)(x:z1k [(0,.v (.sl ee.t))]):Option (List ee.t.den) :=
 cond (decide (x.1.length*ee.bytes<=140737488355328)) (some x.1) none
def z10j (ee:TyI):List A->Res:=z14 [(0,.v (.sl ee.t))] (z10k ee) (z3r (.row ee.t) 1)
set_option maxHeartbeats 1000000 in
theorem z132 {P:Program} {ρ:Ren} (L:SlLaysE0.n41 P ρ) {ee:TyI} (hok:TyOk P (ρ.t 23) ee) (hs0:0<ee.size) (hb0:0<ee.bytes) (glob:Nat->Option Dat):Contract P glob (ρ.f 41) (z10j ee):=by
 have hfn : ∃ fn, P.funcs[ρ.f 41]? = some fn /\ fn.body.isSome = true /\ fn.name ≠ "runtime.NumGoroutine" := by
  obtain⟨nm,h1,h2⟩:=L.f41;exact⟨_,h2,rfl,by simpa using h1⟩
 refine Contract.hand hfn ?_;intro w S vals ob x y har hS hg hy;obtain⟨xs,u⟩:=x;cases u;unfold z10k at hy;dsimp only at hy xs;by_cases hbig:xs.length*ee.bytes<=140737488355328
 case neg=>rw[show decide (xs.length*ee.bytes<=140737488355328)=false from decide_eq_false hbig] at hy;cases hy
 rw[show decide (xs.length*ee.bytes<=140737488355328)=true from decide_eq_true hbig] at hy;simp only[cond] at hy;have hy:=Option.some.inj hy;subst hy;obtain⟨⟨v0,hv0,hA0,ho0⟩,_⟩:=har.rel 0 _ rfl;have hlen:=har.len;obtain⟨u0,rfl⟩:∃ u0,vals=[u0]:=by
  have:vals.length=1:=by simpa[mkS,z39] using hlen.symm
  match vals,this with
  | [a],_=>exact⟨a,rfl⟩
 simp at hv0;subst hv0;have hnone:∀ i,ob i=[]:=by
  intro i
  match i with
  | 0=>exact ho0
  | i+1=>exact har.out _ (by simp[mkS,z39])
 obtain⟨a,cap,rfl,hcap,hm⟩:=VR.sl_inv hA0;obtain⟨inf,hi1,hi2,hi3,z,hi4,hi5⟩:=hok.info;have hzs:z.cells.size=ee.size:=by
  have:=(VR.cells hi5).length;rw[hok.size] at this;simpa using this
 have z23:∀ w,(Go.sizeOf (ρ.t 23)).run P w=.ok ee.size w:=fun w=>z13 hok
 have hmax:xs.length<=maxLen:=by
  have:xs.length<=xs.length*ee.bytes:=Nat.le_mul_of_pos_right _ hb0;unfold maxLen;omega
 -- how it ends
 have fin:∀ (w':World) (v':Value) (news:List Value),All (Rd S ee.t) xs news->w'.ownsRow w.heap.size (ρ.t 23) ee.size v' xs.length news->Below w.heap.size w w' →
  Lift.Ends w S (mkS [(0,.v (.sl ee.t))] 0 (xs,())) [.slice a xs.length cap] ob (z3r (.row ee.t) 1 xs).1 (z3r (.row ee.t) 1 xs).2 (.returned v') w':=by
  intro w' v' news hall hown hb;have hSw:Lift.Sub S (hp w'):=fun k o hk=>by
   have h3:=hS k o hk;have:=hb.block k (z5w h3);simp only[hp] at h3 ⊢;rw[this];exact h3
  have hWF:WF w (fun b=>∃ i,b∈ob i) w':=⟨hb.size,fun k hk _=>hb.block k hk,hb.tape,hb.os,hb.output⟩
  have hbox:∀ i z,(mkS [(0,AS.v (.sl ee.t))] 0 (xs,()))[i]?=some z->z8f z=true->∃ x' v,(z3r (.row ee.t) 1 xs).2[i]?=some x'/\[Value.slice a xs.length cap][i]?=some v/\z8f x'=true/\ARel (hp w') S (fun _=>undef) x' v (ob i):=by
   intro i z hz hbx
   match i with
   | 0=>simp[mkS,z39,AS.mk] at hz;subst hz;cases hbx
   | i+1=>simp[mkS,z39] at hz
  rcases hown.2 with⟨rfl,hn⟩|⟨g,cap',cur,rfl,hg1,hg2,hg3,hg4,hg5,hg6⟩
  . have:xs=[]:=List.length_eq_zero_iff.1 hn;exact⟨_,S,[],ob,rfl,hWF,Lift.Sub.refl _,hSw,fun k hk=>.inl hk,⟨.inl ⟨this,⟨none,rfl,fun _ _=>rfl⟩,rfl⟩,rfl⟩,(fun k hk=>by cases hk),.nil,hbox,
     fun i k hk=>(by rw[hnone i] at hk;cases hk),fun i j k hk=>(by rw[hnone i] at hk;cases hk),fun i=>(by rw[hnone i];exact .nil),fun i hi=>hi⟩
  . refine⟨_,S,[g],ob,rfl,hWF,Lift.Sub.refl _,hSw,fun k hk=>.inl hk,⟨.inr ⟨g,cap',cur,ρ.t 23,(0,0),rfl,rfl,hg2,ze4 _,by rw[hg5,hok.size],hg3,?_,fun q hq=>absurd hq (hok.notByt q)⟩,rfl⟩,(fun k hk=>?_),by simp,hbox,
     fun i k hk=>(by rw[hnone i] at hk;cases hk),fun i j k hk=>(by rw[hnone i] at hk;cases hk),fun i=>(by rw[hnone i];exact .nil),fun i hi=>hi⟩
    . rw[hok.size,hg6];exact hall
    . simp at hk;subst hk;refine⟨?_,.inr hg1⟩;cases hSk:S k with
      | none=>rfl
      | some o=>exact absurd (z5w (hS k o hSk)) (by omega)
 cases a with
 | none =>
   have hx0:xs=[]:=by
    rcases hm with h|⟨b,off,c1,h,_⟩
    . exact h
    . cases h
   subst hx0;refine (AnyE.slices_Clone_nil L 0 cap w).mono ?_;rintro e w' ⟨rfl,rfl⟩;exact fin w' _ [] rfl ⟨by simp,.inl ⟨rfl,rfl⟩⟩ (Below.refl _ _)
 | some ad =>
   rcases hm with hx0|⟨b,off,c1,hae,hl,hall⟩
   . subst hx0;refine (zob L inf z ee.size ee.bytes hi1 hi4 hi2 hi3 hzs hs0 z23 ad 0 cap [] w (by simp) (Nat.zero_le _) (by simp) (fun j u hj=>by simp at hj) (fun u hu=>by cases hu)).mono ?_;rintro e w' ⟨v',rfl,hown,hb⟩;exact fin w' v' [] rfl hown hb
   . cases hae;have hcl:c1.length=xs.length*ee.size:=by rw[All.length (Rd.length ee.t) _ _ hall,hok.size]
     obtain⟨all,E,fr,c0,c2,hSb,hal,hoff⟩:=hl;have hwb:=hS _ _ hSb;refine (zob L inf z ee.size ee.bytes hi1 hi4 hi2 hi3 hzs hs0 z23 ⟨b,off,none⟩ xs.length cap c1 w hcl hmax hbig (fun j u hj=>?_) (All.cells (Rd.ones ee.t) _ _ hall)).mono ?_
     . rw[Addr.add_lit];simp only[World.cell?,show w.heap[b]?=_ from hwb];rw[<- Array.getElem?_toList,hal,<- hoff,List.getElem?_append_right (by omega)];have hjl:j<c1.length:=(List.getElem?_eq_some_iff.1 hj).1;rw[List.getElem?_append_left (by omega),show c0.length+j - c0.length=j by omega];exact hj
     . rintro e w' ⟨v',rfl,hown,hb⟩;exact fin w' v' c1 hall hown hb
end
end Go.Lift
