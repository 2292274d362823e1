import Derived.Test.YtkkkgfmjjkpjdaaGreatDoorLgPrOs3
import Derived.Test.YtkkkgfmjjkpjdaaGreatDoorLgW
import Derived.Test.YtkkkgfmjjkpjdaaGreatDoorChecked
import Derived.Shelf.Strings.OnBuilder
import Derived.KernelRfl
set_option linter.all false
namespace Go.Proofs.YtkkkgfmjjkpjdaaGreatDoorLg
noncomputable section
open Go Go.Lift Go.Proofs Go.Shelf
def z1a4:Go.Shelf.Ren:=⟨fun|156=>51|165=>70|166=>13|169=>14|240=>24|241=>88|276=>52|277=>101|n=>n,fun|31=>25|9=>9|3=>3|4=>4|0=>0|20=>20|72=>43|76=>46|70=>40|37=>41|75=>45|127=>60|164=>77|5=>5|80=>48|n=>n,fun|n=>n⟩
theorem z1nl:Lays.n156 Tryz.prog z1a4 where
 mixed:=by kernel_rfl
 f156:=Tryz.func51.trans (congrArg some (by kernel_rfl))
 f165:=Tryz.func70.trans (congrArg some (by kernel_rfl))
 f166:=Tryz.func13.trans (congrArg some (by kernel_rfl))
 f169:=Tryz.func14.trans (congrArg some (by kernel_rfl))
 f240:=Tryz.func24.trans (congrArg some (by kernel_rfl))
 f241:=Tryz.func88.trans (congrArg some (by kernel_rfl))
 f276:=Tryz.func52.trans (congrArg some (by kernel_rfl))
 f277:=Tryz.func101.trans (congrArg some (by kernel_rfl))
 t0:=Tryz.underlying0
 a0:=Tryz.isAgg0
 z0:=Tryz.sizeOf0
 v0:=Tryz.zeroValue0
 t3:=Tryz.underlying3
 a3:=Tryz.isAgg3
 z3:=Tryz.sizeOf3
 v3:=Tryz.zeroValue3
 t4:=Tryz.underlying4
 a4:=Tryz.isAgg4
 z4:=Tryz.sizeOf4
 v4:=Tryz.zeroValue4
 t9:=Tryz.underlying9
 a9:=Tryz.isAgg9
 z9:=Tryz.sizeOf9
 v9:=Tryz.zeroValue9
 t20:=Tryz.underlying20
 a20:=Tryz.isAgg20
 z20:=Tryz.sizeOf20
 v20:=Tryz.zeroValue20
 t31:=Tryz.underlying25
 a31:=Tryz.isAgg25
 z31:=Tryz.sizeOf25
 v31:=Tryz.zeroValue25
 t37:=Tryz.underlying41
 a37:=Tryz.isAgg41
 z37:=Tryz.sizeOf41
 v37:=Tryz.zeroValue41
 t70:=Tryz.underlying40
 a70:=Tryz.isAgg40
 z70:=Tryz.sizeOf40
 v70:=Tryz.zeroValue40
 t72:=Tryz.underlying43
 a72:=Tryz.isAgg43
 z72:=Tryz.sizeOf43
 v72:=Tryz.zeroValue43
 t75:=Tryz.underlying45
 a75:=Tryz.isAgg45
 z75:=Tryz.sizeOf45
 v75:=Tryz.zeroValue45
 t76:=Tryz.underlying46
 a76:=Tryz.isAgg46
 z76:=Tryz.sizeOf46
 v76:=Tryz.zeroValue46
 t127:=Tryz.underlying60
 a127:=Tryz.isAgg60
 z127:=Tryz.sizeOf60
 v127:=Tryz.zeroValue60
 t164:=Tryz.underlying77
 a164:=Tryz.isAgg77
 z164:=Tryz.sizeOf77
 v164:=Tryz.zeroValue77
theorem z1u6:Builder.Extra Tryz.prog z1a4 where
 sizeBuilder:=by kernel_rfl
 liesBuilder:=by kernel_rfl
 t5:=Tryz.underlying5
 a5:=Tryz.isAgg5
 z5:=Tryz.sizeOf5
 v5:=Tryz.zeroValue5
 infoByte:=by kernel_rfl
 cellsByte:=by kernel_rfl
 sizeByte:=by kernel_rfl
 neB5:=by decide
def z1eu (xs:List (List UInt8)):List ByteArray:=xs.map fun s=>⟨⟨s⟩⟩
theorem z147 (xs:List (List UInt8)):(z1eu xs).map (·.data.toList)=xs:=by
 simp[z1eu,List.map_map,Function.comp_def]
theorem z1k7 {S:Hp}:∀ {xs:List (List UInt8)} {cs:List Value},Lift.All (Rd S .str) xs cs->cs=xs.map (fun s=>Value.string ⟨⟨s⟩⟩)
 | [],_,h=>h
 | x::xs,_,⟨c1,c2,e,h1,h2⟩=>by
   have e1:c1=[.string ⟨⟨x⟩⟩]:=h1;rw[e,e1,z1k7 h2];rfl
theorem z1ke {S:Hp}{w:World}(hS:Lift.Sub S (hp w)){b off:Nat}{xs:List (List UInt8)}{c1:List Value}(hl:Lies S b off c1)(ha:Lift.All (Rd S .str) xs c1) :
 ∀ (j:Nat) x,(z1eu xs)[j]?=some x->w.cell? ⟨b,off+j,none⟩=some (.string x):=by
 intro j x hj;obtain⟨all,E,fr,c0,c2,e,e1,e2⟩:=hl;have e3:=hS _ _ e;have hc:=z1k7 ha;simp only[hp] at e3;have hjx:xs[j]?=some x.data.toList:=by
  have:=congrArg (fun l:List (List UInt8)=>l[j]?) (z147 xs);simp only[List.getElem?_map] at this;rw[<- this,hj];rfl
 have:all[off+j]?=some (.string x):=by
  rw[<- Array.getElem?_toList,e1,List.getElem?_append_right (by omega),e2,Nat.add_sub_cancel_left,hc,List.getElem?_append_left (by
   rw[List.length_map];exact (List.getElem?_eq_some_iff.1 hjx).1),List.getElem?_map,hjx]
  simp
 simp[World.cell?,e3,this]
def z100 (x:z1g [(0,.v (.sl .str)),(0,.v .str)]):Option (List UInt8) :=
 cond (decide (x.1.length<=140737488355328) && decide ((Lib.join x.1 x.2.1).length<=140737488355328)) (some (Lib.join x.1 x.2.1)) none
def z1jo:List A->Res:=z1x [(0,.v (.sl .str)),(0,.v .str)] z100 (za1 (.v .str) 2)
theorem z1sk (glob:Nat->Option Dat):Contract Tryz.prog glob 51 z1jo:=by
 refine Contract.hand ⟨_,Tryz.func51,by kernel_rfl,by decide⟩ ?_;intro w S vals ob x y har hS hg hy;obtain⟨xs,c,u⟩:=x;cases u;unfold z100 at hy;dsimp only at hy xs c;cases hck:(decide (xs.length<=140737488355328) && decide ((Lib.join xs c).length<=140737488355328)) with
 | false=>rw[hck] at hy;cases hy
 | true =>
 rw[hck] at hy;simp only[cond] at hy;cases hy;simp only[Bool.and_eq_true,decide_eq_true_eq] at hck;obtain⟨h0,h1⟩:=hck;obtain⟨⟨v0,hv0,hA0,ho0⟩,_⟩:=har.rel 0 _ rfl;obtain⟨⟨v1,hv1,hA1,ho1⟩,_⟩:=har.rel 1 _ rfl;have hlen:=har.len;obtain⟨u0,u1,rfl⟩:∃ u0 u1,vals=[u0,u1]:=by
  have:vals.length=2:=by simpa[mkS,zfy] using hlen.symm
  match vals,this with
  | [a,b],_=>exact⟨a,b,rfl⟩
 simp at hv0 hv1;subst hv0;subst hv1;have e1:=hA1.str_inv;subst e1;have hnone:∀ i,ob i=[]:=by
  intro i
  match i with
  | 0=>exact ho0
  | 1=>exact ho1
  | i+2=>exact har.out _ (by simp[mkS,zfy])
 suffices hcall:Calls Tryz.prog 51 #[u0,.string ⟨⟨c⟩⟩] w fun e w'=>e=.returned (.string ⟨(Lib.join xs c).toArray⟩)/\Go.RowKit.Below w.heap.size w w' by
  refine hcall.mono ?_;rintro e w' ⟨rfl,hb⟩;refine⟨_,S,[],ob,rfl,⟨hb.size,fun k hk _=>hb.block k hk,hb.tape,hb.os,hb.output⟩,Lift.Sub.refl _,fun k o hk=>?_,fun k hk=>.inl hk,⟨⟨VR.str,rfl⟩,rfl⟩,(fun k hk=>by cases hk),.nil,?_,?_,har.inj,har.nd,fun i hi=>hi⟩
  . have h3:=hS k o hk;have:=hb.block k (zcb h3);simp only[hp] at h3 ⊢;rw[this];exact h3
  . intro i z hz hbx
    match i with
    | 0=>simp[mkS,zfy,AS.mk] at hz;subst hz;cases hbx
    | 1=>simp[mkS,zfy,AS.mk] at hz;subst hz;cases hbx
    | i+2=>simp[mkS,zfy] at hz
  . intro i k hk;rw[hnone i] at hk;cases hk
 have hr:∃ a cap,[u0]=[Value.slice a xs.length cap]/\xs.length<=cap/\(xs=[]\/∃ b off c1,a=some ⟨b,off,none⟩/\Lies S b off c1/\Lift.All (Rd S .str) xs c1):=hA0;obtain⟨a,cap,he,hcap,hr⟩:=hr;cases he;rcases hr with rfl|⟨b,off,c1,rfl,hl,ha⟩
 . exact (Any.strings_Join_none z1nl z1u6 a cap ⟨⟨c⟩⟩ w).mono fun e w' ⟨he,hw⟩=>⟨he,hw ▸ Go.RowKit.Below.refl _ _⟩
 . have hj:=Any.strings_Join z1nl z1u6 b off cap (z1eu xs) ⟨⟨c⟩⟩ w (z1ke hS hl ha) (by
    obtain⟨all,E,fr,c0,c2,e,_⟩:=hl;exact zcb (hS _ _ e)) (by rw[z1eu,List.length_map];exact h0) (by rw[z1eu,List.length_map];exact hcap) (by rw[z147];exact h1)
   rw[z147,show (z1eu xs).length=xs.length by rw[z1eu,List.length_map]] at hj;exact hj
end
end Go.Proofs.YtkkkgfmjjkpjdaaGreatDoorLg
set_option linter.all false
set_option maxRecDepth 100000
namespace Go.Lift
noncomputable section
def BSt (t:T)(w0:World)(S0:Hp)(ob0:List Nat)(bf:Nat)(w:World)(x:t.den)(L:List (Nat×Array Value×Nat)):Prop :=
 ∃ S o,WF w0 (fun k=>k∈ob0) w/\Sub S0 S/\Sub S (hp w)/\(∀ k,S k≠none->S0 k≠none\/k∈ob0\/w0.heap.size<=k)/\ARel (hp w) S (fun _=>undef) (.box t x) (.pointer (some ⟨bf,0,none⟩)) o/\o.Nodup ∧
 (∀ k∈o,S k=none/\(k∈ob0\/w0.heap.size<=k))/\∀ p∈L,S p.1=none/\p.1∉o/\w0.heap.size<=p.1/\w.heap[p.1]?=some (.cells p.2.1 p.2.2 (0,0))
variable {P:Program} {glob:Nat->Option Dat} {t:T} {w0 w:World} {S0:Hp} {ob0:List Nat} {bf:Nat} {x:t.den} {L:List (Nat×Array Value×Nat)}
theorem BSt.lt (h:BSt t w0 S0 ob0 bf w x L):∀ p∈L,p.1<w.heap.size:=by
 obtain⟨S,o,_,_,_,_,_,_,_,hL⟩:=h;exact fun p hp=>(Array.getElem?_eq_some_iff.1 (hL p hp).2.2.2).1
theorem BSt.drew (h:BSt t w0 S0 ob0 bf w x L):BSt t w0 S0 ob0 bf w.drew x L:=by
 obtain⟨S,o,k1,k2⟩:=h;exact⟨S,o,⟨k1.size,k1.same,k1.tape,k1.os,k1.output⟩,k2⟩
theorem BSt.cell (h:BSt t w0 S0 ob0 bf w x L){p:Nat}{cs:Array Value}{E i:Nat}{v:Value}(hm:(p,cs,E)∈L)(hi:cs[i]?=some v):w.cell? ⟨p,i,none⟩=some v:=by
 obtain⟨S,o,_,_,_,_,_,_,_,hL⟩:=h;have:=(hL _ hm).2.2.2;simp only at this;simp[World.cell?,this,hi]
theorem BSt.plain {f:FuncId}{g:List A->Res}(ct:Contract P glob f g)(hg:∀ S,GlobOk glob S)(h:BSt t w0 S0 ob0 bf w x L){args:List A}{vals:List Value}
 (hrel:∀ S,Sub S (hp w)->ArgsRel (hp w) S args vals (fun _=>[])) {y:(g args).X} (hy:(g args).val=some y) :
 Calls P f vals.toArray w fun e w'=>∃ v S' o',e=.returned v/\ARel (hp w') S' (fun _=>undef) ((g args).out y).1 v o'/\BSt t w0 S0 ob0 bf w' x L:=by
 have h':=h;obtain⟨S,o,h1,h2,h3,h4,h5,h6,h7,hL⟩:=h';refine ((ct.2 w S args vals _ (hrel S h3) h3 (hg S) y hy)).mono ?_;rintro e w' ⟨v,S',q,ob',rfl,hwf,hSS,hSw,hnew,⟨hr,_⟩,_⟩;refine⟨v,S',q,rfl,hr,?_⟩;have hwf':WF w (fun _=>False) w':=⟨hwf.size,fun k hk _=>hwf.same k hk (by rintro⟨i,hi⟩;cases hi),hwf.tape,hwf.os,hwf.output⟩
 have hlt:∀ k∈o,k<w.heap.size:=fun k hk=>by
  obtain⟨ob,hob⟩:=h5.obj k hk;exact (Array.getElem?_eq_some_iff.1 hob.1).1
 have hnw:∀ k,k<w.heap.size->S' k≠none->S k≠none:=fun k hk hs=>by
  rcases hnew k hs with h|⟨i,hi⟩|h
  . exact h
  . cases hi
  . omega
 refine⟨S',o,h1.trans hwf' (fun _ h=>h.elim),h2.trans hSS,hSw,fun k hk=>?_,?_,h6,fun k hk=>⟨?_,(h7 k hk).2⟩,fun p hp=>?_⟩
 . rcases hnew k hk with h|⟨i,hi⟩|h
   . exact h4 k h
   . cases hi
   . exact .inr (.inr (Nat.le_trans h1.size h))
 . obtain⟨b,cs,E,fr,bs,rfl,e1,e2,e3,e4⟩:=h5;refine⟨b,cs,E,fr,bs,rfl,e1,?_,e3,e4.mono hSS _ _ _ _ (fun k hk=>hwf'.same k (hlt k (by simp[hk])) (fun h=>h))⟩;have:=hwf'.same b (hlt b (by simp)) (fun h=>h);simp only[hp] at e2 ⊢;rw[this];exact e2
 . cases hs:S' k with
   | none=>rfl
   | some q=>exact absurd (h7 k hk).1 (hnw k (hlt k hk) (by rw[hs];simp))
 . obtain⟨p1,p2,p3,p4⟩:=hL p hp;have hl:=(Array.getElem?_eq_some_iff.1 p4).1;refine⟨?_,p2,p3,?_⟩
   . cases hs:S' p.1 with
     | none=>rfl
     | some q=>exact absurd p1 (hnw _ hl (by rw[hs];simp))
   . rw[hwf'.same p.1 hl (fun h=>h)];exact p4
theorem BSt.alloc (h:BSt t w0 S0 ob0 bf w x L) (cs:Array Value) (E:Nat):BSt t w0 S0 ob0 bf (w.alloc (.cells cs E)) x ((w.heap.size,cs,E)::L):=by
 have hlt:=h.lt;obtain⟨S,o,h1,h2,h3,h4,h5,h6,h7,hL⟩:=h;have hh:(w.alloc (.cells cs E)).heap=w.heap.push (.cells cs E (0,0)):=rfl;have hk:∀ k,k<w.heap.size->(w.alloc (.cells cs E)).heap[k]?=w.heap[k]?:=fun k hk=>by
  rw[hh,Array.getElem?_push,if_neg (by omega)]
 have hol:∀ k∈o,k<w.heap.size:=fun k hk=>by
  obtain⟨ob,hob⟩:=h5.obj k hk;exact (Array.getElem?_eq_some_iff.1 hob.1).1
 refine⟨S,o,⟨by rw[hh,Array.size_push];have:=h1.size;omega,fun k h1' h2'=>by rw[hk k (by have:=h1.size;omega)];exact h1.same k h1' h2',h1.tape,h1.os,h1.output⟩,h2,fun k q ho=>?_,h4,?_,h6,h7,fun p hpm=>?_⟩
 . have:=h3 k q ho;simp only[hp] at this ⊢;rw[hk k (Array.getElem?_eq_some_iff.1 this).1];exact this
 . obtain⟨b,c1,E',fr,bs,rfl,e1,e2,e3,e4⟩:=h5;refine⟨b,c1,E',fr,bs,rfl,e1,?_,e3,e4.mono (Sub.refl _) _ _ _ _ (fun k hkm=>hk k (hol k (by simp[hkm])))⟩;simp only[hp] at e2 ⊢;rw[hk b (hol b (by simp))];exact e2
 . rcases List.mem_cons.1 hpm with rfl|hpm
   . refine⟨?_,fun hm=>absurd (hol _ hm) (by simp),h1.size,?_⟩
     . cases hs:S w.heap.size with
       | none=>rfl
       | some q =>
         have:=h3 _ _ hs;simp only[hp] at this;have:=(Array.getElem?_eq_some_iff.1 this).1;omega
     . simp only;rw[hh,Array.getElem?_push,if_pos rfl]
   . obtain⟨p1,p2,p3,p4⟩:=hL p hpm;exact⟨p1,p2,p3,by rw[hk p.1 (hlt p hpm)];exact p4⟩
theorem BSt.put {p:Nat}{cs:Array Value}{E:Nat}(h:BSt t w0 S0 ob0 bf w x ((p,cs,E)::L))(hd:∀ q∈L,q.1≠p){w':World}{cs':Array Value}(hw:w'=z1r w p (.cells cs' E (0,0))):BSt t w0 S0 ob0 bf w' x ((p,cs',E)::L):=by
 obtain⟨S,o,h1,h2,h3,h4,h5,h6,h7,hL⟩:=h;obtain⟨q1,q2,q3,q4⟩:=hL (p,cs,E) (List.mem_cons_self ..);simp only at q1 q2 q3 q4;have hne:∀ k,k≠p->w'.heap[k]?=w.heap[k]?:=fun k hk=>by
  have:=zy (w:=w) (o:=.cells cs' E (0,0)) hk;rw[hw];exact this
 have hsz:w'.heap.size=w.heap.size:=by rw[hw];simp[z1r]
 refine⟨S,o,⟨by rw[hsz];exact h1.size,fun k h1' h2'=>by rw[hne k (by omega)];exact h1.same k h1' h2',by rw[hw];exact h1.tape,by rw[hw];exact h1.os,by rw[hw];exact h1.output⟩,h2,fun k q ho=>?_,h4,?_,h6,h7,fun u hu=>?_⟩
 . have hk:k≠p:=fun e=>by rw[e,q1] at ho;cases ho
   have:=h3 k q ho;simp only[hp] at this ⊢;rw[hne k hk];exact this
 . obtain⟨b,c1,E',fr,bs,rfl,e1,e2,e3,e4⟩:=h5;refine⟨b,c1,E',fr,bs,rfl,e1,?_,e3,e4.mono (Sub.refl _) _ _ _ _ (fun k hkm=>hne k (fun e=>q2 (by simp[<- e,hkm])))⟩;simp only[hp] at e2 ⊢;rw[hne b (fun e=>q2 (by simp[<- e]))];exact e2
 . rcases List.mem_cons.1 hu with rfl|hu
   . refine⟨q1,q2,q3,?_⟩;rw[hw];exact z39 q4
   . obtain⟨p1,p2,p3,p4⟩:=hL u (List.mem_cons_of_mem _ hu);exact⟨p1,p2,p3,by rw[hne u.1 (hd u hu)];exact p4⟩
theorem BSt.setCell {p:Nat}{cs:Array Value}{E:Nat}(h:BSt t w0 S0 ob0 bf w x ((p,cs,E)::L))(hd:∀ q∈L,q.1≠p)(i:Nat)(v:Value) :
 BSt t w0 S0 ob0 bf (w.setCell ⟨p,i,none⟩ v) x ((p,cs.setIfInBounds i v,E)::L):=by
 have hb:hp w p=some (.cells cs E (0,0)):=by
  obtain⟨S,o,_,_,_,_,_,_,_,hL⟩:=h;exact (hL _ (List.mem_cons_self ..)).2.2.2
 exact h.put hd (z149 v hb)
theorem BSt.ends {args outs:List A}{vs:List Value}{ob:Nat->List Nat}{x0:t.den}{r:A}{v:Value}(h:BSt t w0 S0 (ob 0) bf w x L)(hob:∀ i,ob (i+1)=[])(hne:ob 0≠[])(hargs:∀ y∈args,zit y=false)
 (hr:∀ S',ARel (hp w) S' (fun _=>undef) r v []) (hrr:r.refs=[]):Ends w0 S0 (.box t x0::args) (.pointer (some ⟨bf,0,none⟩)::vs) ob r (.box t x::outs) (.returned v) w:=by
 obtain⟨S,o,h1,h2,h3,h4,h5,h6,h7,hL⟩:=h;have hz:∀ k,(∃ i,k∈ob i)->k∈ob 0:=by
  rintro k ⟨i,hi⟩;cases i with
  | zero=>exact hi
  | succ i=>rw[hob i] at hi;cases hi
 refine⟨v,S,[],fun i=>if i=0 then o else [],rfl,⟨h1.size,fun k hk hn=>h1.same k hk (fun hh=>hn ⟨0,hh⟩),h1.tape,h1.os,h1.output⟩,h2,h3,fun k hk=>?_,⟨hr S,hrr⟩,(fun k hk=>by cases hk),.nil,?_,?_,?_,?_,?_⟩
 . rcases h4 k hk with h|h|h
   . exact .inl h
   . exact .inr (.inl ⟨0,h⟩)
   . exact .inr (.inr h)
 . intro i y hy hbx;cases i with
   | zero=>exact⟨_,_,rfl,rfl,rfl,by simpa using h5⟩
   | succ i =>
     have:=hargs y (List.mem_of_getElem? (by simpa using hy));rw[hbx] at this;cases this
 . intro i k hk;dsimp only at hk;by_cases hi0:i=0
   . rw[if_pos hi0] at hk;obtain⟨g1,g2⟩:=h7 k hk;refine⟨?_,g1,by simp⟩;rcases g2 with h|h
     . exact .inl ⟨0,h⟩
     . exact .inr h
   . rw[if_neg hi0] at hk;cases hk
 . intro i j k hi hj;by_cases hi0:i=0<;>by_cases hj0:j=0<;>simp_all
 . intro i;by_cases hi0:i=0<;>simp[hi0,h6]
 . intro i hi;by_cases hi0:i=0
   . subst hi0;exact absurd hi hne
   . dsimp only;rw[if_neg hi0]
end
end Go.Lift
set_option linter.all false
set_option maxRecDepth 100000
namespace Go.Lift
noncomputable section
structure NSt (w0:World) (S0:Hp) (w:World) (S:Hp) (L:List (Nat×Array Value×Nat)):Prop where
 wf:WF w0 (fun _=>False) w
 sub:Sub S0 S
 inw:Sub S (hp w)
 new:∀ k,S k≠none->S0 k≠none\/w0.heap.size<=k
 own:∀ p∈L,S p.1=none/\w0.heap.size<=p.1/\w.heap[p.1]?=some (.cells p.2.1 p.2.2 (0,0))
variable {P:Program} {glob:Nat->Option Dat} {w0 w:World} {S0 S:Hp} {L:List (Nat×Array Value×Nat)}
theorem NSt.lt (h:NSt w0 S0 w S L):∀ p∈L,p.1<w.heap.size:=fun p hp=>(Array.getElem?_eq_some_iff.1 (h.own p hp).2.2).1
theorem NSt.drew (h:NSt w0 S0 w S L):NSt w0 S0 w.drew S L:=⟨⟨h.wf.size,h.wf.same,h.wf.tape,h.wf.os,h.wf.output⟩,h.sub,h.inw,h.new,h.own⟩
theorem NSt.cell (h:NSt w0 S0 w S L){p:Nat}{cs:Array Value}{E i:Nat}{v:Value}(hm:(p,cs,E)∈L)(hi:cs[i]?=some v):w.cell? ⟨p,i,none⟩=some v:=by
 have:=(h.own _ hm).2.2;simp only at this;simp[World.cell?,this,hi]
theorem NSt.alloc (h:NSt w0 S0 w S L) (cs:Array Value) (E:Nat):NSt w0 S0 (w.alloc (.cells cs E)) S ((w.heap.size,cs,E)::L):=by
 have hlt:=h.lt;have hh:(w.alloc (.cells cs E)).heap=w.heap.push (.cells cs E (0,0)):=rfl;have hk:∀ k,k<w.heap.size->(w.alloc (.cells cs E)).heap[k]?=w.heap[k]?:=fun k hk=>by
  rw[hh,Array.getElem?_push,if_neg (by omega)]
 refine⟨⟨by rw[hh,Array.size_push];have:=h.wf.size;omega,fun k h1' h2'=>by rw[hk k (by have:=h.wf.size;omega)];exact h.wf.same k h1' h2',h.wf.tape,h.wf.os,h.wf.output⟩,h.sub,fun k q ho=>?_,h.new,fun p hpm=>?_⟩
 . have:=h.inw k q ho;simp only[hp] at this ⊢;rw[hk k (Array.getElem?_eq_some_iff.1 this).1];exact this
 . rcases List.mem_cons.1 hpm with rfl|hpm
   . refine⟨?_,h.wf.size,?_⟩
     . cases hs:S w.heap.size with
       | none=>rfl
       | some q =>
         have:=h.inw _ _ hs;simp only[hp] at this;have:=(Array.getElem?_eq_some_iff.1 this).1;omega
     . simp only;rw[hh,Array.getElem?_push,if_pos rfl]
   . obtain⟨p1,p3,p4⟩:=h.own p hpm;exact⟨p1,p3,by rw[hk p.1 (hlt p hpm)];exact p4⟩
theorem NSt.set {p:Nat}{cs:Array Value}{E:Nat}(h:NSt w0 S0 w S ((p,cs,E)::L))(hd:∀ q∈L,q.1≠p)(i:Nat)(v:Value) :
 NSt w0 S0 (w.setCell ⟨p,i,none⟩ v) S ((p,cs.setIfInBounds i v,E)::L):=by
 obtain⟨q1,q3,q4⟩:=h.own (p,cs,E) (List.mem_cons_self ..);simp only at q1 q3 q4;have hw:=z149 (off:=i) v (show hp w p=some (.cells cs E (0,0)) from q4);obtain⟨w',hw'⟩:∃ w',w'=w.setCell ⟨p,i,none⟩ v:=⟨_,rfl⟩
 rw[<- hw'] at hw ⊢;have hne:∀ k,k≠p->w'.heap[k]?=w.heap[k]?:=fun k hk=>by
  have:=zy (w:=w) (o:=.cells (cs.setIfInBounds i v) E (0,0)) hk;rw[hw];exact this
 have hsz:w'.heap.size=w.heap.size:=by rw[hw];simp[z1r]
 refine⟨⟨by rw[hsz];exact h.wf.size,fun k h1' h2'=>by rw[hne k (by omega)];exact h.wf.same k h1' h2',by rw[hw];exact h.wf.tape,by rw[hw];exact h.wf.os,by rw[hw];exact h.wf.output⟩,h.sub,fun k q ho=>?_,h.new,fun u hu=>?_⟩
 . have hk:k≠p:=fun e=>by rw[e,q1] at ho;cases ho
   have:=h.inw k q ho;simp only[hp] at this ⊢;rw[hne k hk];exact this
 . rcases List.mem_cons.1 hu with rfl|hu
   . refine⟨q1,q3,?_⟩;rw[hw];exact z39 q4
   . obtain⟨p1,p3,p4⟩:=h.own u (List.mem_cons_of_mem _ hu);exact⟨p1,p3,by rw[hne u.1 (hd u hu)];exact p4⟩
theorem NSt.plain {f:FuncId}{g:List A->Res}(ct:Contract P glob f g)(hg:GlobOk glob S)(h:NSt w0 S0 w S L){args:List A}{vals:List Value}
 (hrel:ArgsRel (hp w) S args vals (fun _=>[])) {y:(g args).X} (hy:(g args).val=some y) :
 Calls P f vals.toArray w fun e w'=>∃ v S' o',e=.returned v/\ARel (hp w') S' (fun _=>undef) ((g args).out y).1 v o'/\Sub S S'/\NSt w0 S0 w' S' L:=by
 refine ((ct.2 w S args vals _ hrel h.inw hg y hy)).mono ?_;rintro e w' ⟨v,S',q,ob',rfl,hwf,hSS,hSw,hnew,⟨hr,_⟩,_⟩;refine⟨v,S',q,rfl,hr,hSS,?_⟩;have hwf':WF w (fun _=>False) w':=⟨hwf.size,fun k hk _=>hwf.same k hk (by rintro⟨i,hi⟩;cases hi),hwf.tape,hwf.os,hwf.output⟩
 have hnw:∀ k,k<w.heap.size->S' k≠none->S k≠none:=fun k hk hs=>by
  rcases hnew k hs with h|⟨i,hi⟩|h
  . exact h
  . cases hi
  . omega
 refine⟨h.wf.trans hwf' (fun _ h=>h.elim),h.sub.trans hSS,hSw,fun k hk=>?_,fun p hp=>?_⟩
 . rcases hnew k hk with h'|⟨i,hi⟩|h'
   . exact h.new k h'
   . cases hi
   . exact .inr (Nat.le_trans h.wf.size h')
 . obtain⟨p1,p3,p4⟩:=h.own p hp;have hl:=(Array.getElem?_eq_some_iff.1 p4).1;refine⟨?_,p3,?_⟩
   . cases hs:S' p.1 with
     | none=>rfl
     | some q=>exact absurd p1 (hnw _ hl (by rw[hs];simp))
   . rw[hwf'.same p.1 hl (fun h=>h)];exact p4
theorem NSt.ends {args outs:List A}{vals:List Value}{ob:Nat->List Nat}{r:A}{v:Value}(h:NSt w0 S0 w S L)(hob:∀ i,ob i=[])(hargs:∀ y∈args,zit y=false)
 (hr:ARel (hp w) S (fun _=>undef) r v []) (hrr:r.refs=[]):Ends w0 S0 args vals ob r outs (.returned v) w:=by
 refine⟨v,S,[],fun _=>[],rfl,⟨h.wf.size,fun k hk _=>h.wf.same k hk (fun h=>h),h.wf.tape,h.wf.os,h.wf.output⟩,h.sub,h.inw,fun k hk=>?_,⟨hr,hrr⟩,(fun k hk=>by cases hk),.nil,fun i y hy hbx=>?_,(fun i k hk=>by cases hk),(fun i j k hi=>by cases hi),fun i=>.nil,fun i hi=>rfl⟩
 . rcases h.new k hk with h|h
   . exact .inl h
   . exact .inr (.inr h)
 . have:=hargs y (List.mem_of_getElem? hy);rw[hbx] at this;cases this
end
end Go.Lift
