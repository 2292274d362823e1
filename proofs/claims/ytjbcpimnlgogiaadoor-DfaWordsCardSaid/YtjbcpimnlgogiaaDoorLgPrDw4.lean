import Derived.Test.YtjbcpimnlgogiaaDoorLgPrDw2
import Derived.Test.YtjbcpimnlgogiaaDoorLgPrDw3
import Derived.WalkKit
import Derived.Tactics
import Derived.Tactics2
import Derived.Defers
import Derived.Lib.Hide
import Derived.Below
import Derived.WalkSmall
import Derived.LoopN
import Derived.Deep.RegionHeld3
import Derived.Deep.Cut
import Derived.Deep.OwnRows
import Derived.Deep.LoopGhost
import Derived.Deep.Light
import Derived.Deep.CutRange
import Derived.KernelRfl
import Derived.Laws.Rows
set_option linter.all false
set_option maxRecDepth 100000
namespace Go.Proofs.YtjbcpimnlgogiaaDoorLg
noncomputable section
open Go Go.Lift Go.Proofs
abbrev D18:T:=.pair (.int .i64) (.pair (.sl .bool) (.pair (.sl (.int .i64)) (.pair (.sl (.sl (.int .i64))) .unit)))
abbrev W4:T:=.arr 4 (.int .u64)
def zhh (N:Nat):List UInt8->Option (List (List Int))
 | []=>some []
 | b::s=>(z22 N (b.toNat:Int) (b.toNat:Int)).bind fun x=>(zhh N s).bind fun l=>some (x::l)
def zlv (bl:List Int)(s:List UInt8)(j:Nat):Nat:=(bl.getD (s.getD j 0).toNat 0).toNat
def z5c (s:List UInt8)(bl:List Int)(c:Nat):List (List Int) :=
 (List.range (s.length+2)).map fun j=>(List.range c).map fun i=>cond (decide (j<s.length) && decide (i=zlv bl s j)) ((j:Int)+1) ((s.length:Int)+1)
def zd2 (N:Nat)(s:List UInt8):Option (D18.den×(Int×Unit)) :=
 cond (decide (1024<s.length)) (some ((0,([],([],([],())))),(3,())))
 ((zhh N s).bind fun sets=>(za5 N sets).bind fun bl=>(z42 N bl).bind fun c =>
 cond (decide (0<=c) && decide (c<=256) && (sets.all fun x=>decide (x.length=4)) && (s.all fun b=>decide (b.toNat<bl.length) && decide (0<=bl.getD b.toNat 0) && decide (bl.getD b.toNat 0<c)))
 (some ((0,(List.replicate s.length false++[true,false],(bl,(z5c s bl c.toNat,())))),(0,()))) none)
def zh0 (N:Nat):List A->Res:=z12 [(0,.v .str)] (fun x=>zd2 N x.1) (z7r (.tup [D18,(.int .i64)]) 1)
theorem znm (N:Nat):∀ (s:List UInt8) (l:List (List Int)),zhh N s=some l->l.length=s.length/\∀ i,i<s.length->z22 N ((s.getD i 0).toNat:Int) ((s.getD i 0).toNat:Int)=some (l.getD i [])
 | [],l,h=>by
   cases h;exact⟨rfl,fun i hi=>by cases hi⟩
 | b::s,l,h=>by
   obtain⟨x,hx,h⟩:=Option.bind_eq_some_iff.1 h;obtain⟨m,hm,h⟩:=Option.bind_eq_some_iff.1 h;cases h;obtain⟨h1,h2⟩:=znm N s m hm;refine⟨by simp[h1],fun i hi=>?_⟩;cases i with
   | zero=>simpa using hx
   | succ i=>simpa using h2 i (by simpa using hi)
def wv (xs:List (List Int)):Array Value:=(xs.flatMap fun x=>x.map (Value.int .u64)).toArray
theorem z15g {xs:List (List Int)}(h:∀ x∈xs,x.length=4):(xs.flatMap fun x=>x.map (Value.int .u64)).length=4*xs.length:=by
 induction xs with
 | nil=>rfl
 | cons x xs ih =>
   rw[List.flatMap_cons,List.length_append,List.length_map,h x (.head _),ih (fun y hy=>h y (.tail _ hy)),List.length_cons];omega
theorem z1cs {pre post:List (List Int)}{i:Nat}(hp:∀ x∈pre,x.length=4)(hi:pre.length=i)(a b c d:Int) :
 ((((wv (pre++[0,0,0,0]::post)).setIfInBounds (i*4) (.int .u64 a)).setIfInBounds (i*4+1) (.int .u64 b)).setIfInBounds (i*4+2) (.int .u64 c)).setIfInBounds (i*4+3) (.int .u64 d)=wv (pre++[a,b,c,d]::post):=by
 have hl:=z15g hp;rw[hi] at hl;simp only[wv,List.flatMap_append,List.flatMap_cons,List.map_cons,List.map_nil,List.setIfInBounds_toArray];generalize hP:(List.flatMap (fun x=>List.map (Value.int .u64) x) pre)=P at hl;clear hP;have e:∀ (k:Nat) (l:List Value) (v:Value),(P++l).set (i*4+k) v=P++l.set k v:=fun k l v=>by
  rw[List.set_append_right _ _ (by omega)];congr 2;omega
 have e0:=e 0;rw[Nat.add_zero] at e0;rw[e0,e 1,e 2,e 3];rfl
theorem z186 (n:Nat):madeCells #[.int .u64 0,.int .u64 0,.int .u64 0,.int .u64 0] (n*4)=wv (List.replicate n [0,0,0,0]):=by
 have hz:∀ n,(List.replicate n [0,0,0,0]:List (List Int)).flatMap (fun x=>x.map (Value.int .u64))=List.replicate (n*4) (Value.int .u64 0):=by
  intro n
  induction n with
  | zero=>rfl
  | succ n ih =>
    rw[List.replicate_succ,List.flatMap_cons,ih,Nat.succ_mul,Nat.add_comm (n*4) 4,<- List.replicate_append_replicate];rfl
 apply Array.toList_inj.1;rw[wv,hz];apply List.ext_getElem
 . simp[madeCells];try omega
 . intro i h1 h2;have:i % 4=0\/i % 4=1\/i % 4=2\/i % 4=3:=by omega
   simp[madeCells];rcases this with h|h|h|h<;>simp[h]
theorem zqf {w0 w:World}{S0 S:Hp}{L:List (Nat×Array Value×Nat)}(h:NSt w0 S0 w S L){b E:Nat}{cs:Array Value}(hb:w.heap[b]?=some (.cells cs E (0,0)))(hS:S b=none)(hlo:w0.heap.size<=b)(hd:∀ q∈L,q.1≠b)(i:Nat)(v:Value) :
 NSt w0 S0 (w.setCell ⟨b,i,none⟩ v) S L:=by
 have h1:NSt w0 S0 w S ((b,cs,E)::L):=⟨h.wf,h.sub,h.inw,h.new,fun p hp=>by
  rcases List.mem_cons.1 hp with rfl|hp
  . exact⟨hS,hlo,hb⟩
  . exact h.own p hp⟩
 exact (h1.set hd i v).swap (fun p hp=>List.mem_cons_of_mem _ hp)
theorem z11p {w0 w:World}{S0 S:Hp}{L:List (Nat×Array Value×Nat)}(h:NSt w0 S0 w S L){b:Nat}(hb:w.heap.size<=b):S b=none:=by
 cases hs:S b with
 | none=>rfl
 | some o =>
   have:=h.inw b o hs;simp only[hp] at this;have:=(Array.getElem?_eq_some_iff.1 this).1;omega
structure WSt (w0:World) (S0:Hp) (S:Hp) (L:List (Nat×Array Value×Nat)) (bn m c R tr ti:Nat) (k:Nat) (Z:Nat->Nat->Int) (w:World):Prop where
 st:NSt w0 S0 w S L
 top:w.rowIs bn tr m (fun j=>if j<k then .slice (some ⟨R+j,0,none⟩) c c else .slice none 0 0)
 rows:∀ j,j<k->w.rowIs (R+j) ti c (fun i=>.int .i64 (Z j i))
 size:w.heap.size=R+k
 bnlt:bn<R
 low:w0.heap.size<=bn
 bnS:S bn=none
 bnL:∀ q∈L,q.1≠bn
 Llt:∀ q∈L,q.1<R
 Slt:∀ j,R<=j->S j=none
section
variable {w0 w:World} {S0 S:Hp} {L:List (Nat×Array Value×Nat)} {bn m c R tr ti k:Nat} {Z Z':Nat->Nat->Int}
theorem WSt.drew (h:WSt w0 S0 S L bn m c R tr ti k Z w):WSt w0 S0 S L bn m c R tr ti k Z w.drew :=
 ⟨h.st.drew,h.top,h.rows,h.size,h.bnlt,h.low,h.bnS,h.bnL,h.Llt,h.Slt⟩
theorem WSt.congr (h:WSt w0 S0 S L bn m c R tr ti k Z w)(e:∀ j,j<k->∀ i,i<c->Z j i=Z' j i):WSt w0 S0 S L bn m c R tr ti k Z' w :=
 ⟨h.st,h.top,fun j hj=>(h.rows j hj).congr (fun i hi=>by rw[e j hj i hi]),h.size,h.bnlt,h.low,h.bnS,h.bnL,h.Llt,h.Slt⟩
theorem z117 {b t n:Nat}{f:Nat->Value}(h:w.rowIs b t n f):∃ cs,w.heap[b]?=some (.cells cs t (0,0))/\cs.size=n/\∀ i,i<n->cs[i]?=some (f i):=h
theorem WSt.make (h:WSt w0 S0 S L bn m c R tr ti k Z w) :
 WSt w0 S0 S L bn m c R tr ti (k+1) (fun j i=>if j<k then Z j i else 0) ((w.alloc (.cells (madeCells #[.int .i64 0] c) ti)).setCell ⟨bn,k,none⟩ (.slice (some ⟨w.heap.size,0,none⟩) c c)):=by
 have hR:w.heap.size=R+k:=h.size;have hbn:=h.bnlt;have hst1:NSt w0 S0 (w.alloc (.cells (madeCells #[.int .i64 0] c) ti)) S L:=(h.st.alloc _ _).swap (fun p hp=>List.mem_cons_of_mem _ hp);have htop:=h.top.alloc (.cells (madeCells #[.int .i64 0] c) ti);obtain⟨cs,hc,_⟩:=z117 htop;have hnew:=World.rowIs_made w (.int .i64 0) c ti;rw[hR] at hnew;refine⟨zqf hst1 hc h.bnS h.low h.bnL k _,(htop.set k _).congr (fun j _=>?_),fun j hj=>?_,by simp[World.setCell,h.size];omega,h.bnlt,h.low,h.bnS,h.bnL,h.Llt,h.Slt⟩
 . rw[hR];by_cases e:j=k
   . subst e;simp
   . rw[if_neg e];by_cases hlt:j<k
     . rw[if_pos hlt,if_pos (by omega)]
     . rw[if_neg hlt,if_neg (by omega)]
 . by_cases e:j=k
   . subst e;exact (hnew.setOther (by show R+j≠bn;omega) _).congr (fun i _=>by simp)
   . have hj':j<k:=by omega
     exact (((h.rows j hj').alloc _).setOther (by show R+j≠bn;omega) _).congr (fun i _=>by simp[hj'])
theorem WSt.put (h:WSt w0 S0 S L bn m c R tr ti k Z w){j:Nat}(hj:j<k)(i:Nat)(v:Int) :
 WSt w0 S0 S L bn m c R tr ti k (fun a b=>if a=j/\b=i then v else Z a b) (w.setCell ⟨R+j,i,none⟩ (.int .i64 v)):=by
 obtain⟨cs,hc,_⟩:=z117 (h.rows j hj);have hbn:=h.bnlt;have hlo:=h.low;refine⟨zqf h.st hc (h.Slt _ (by omega)) (by omega) (fun q hq=>by have:=h.Llt q hq;omega) i _,h.top.setOther (by show bn≠R+j;omega) _,fun a ha=>?_,by simp[World.setCell,h.size],h.bnlt,h.low,h.bnS,h.bnL,h.Llt,h.Slt⟩;by_cases e:a=j
 . subst e;exact ((h.rows a ha).set i _).congr (fun b _=>by
    by_cases e:b=i
    . simp[e]
    . simp[e])
 . exact ((h.rows a ha).setOther (by show R+a≠R+j;omega) _).congr (fun b _=>by simp[e])
end
theorem zhe {w:World}{S:Hp}(l:List (A×Value))(hl:∀ p∈l,ARel (hp w) S (fun _=>undef) p.1 p.2 []/\p.1.refs=[]) :
 ArgsRel (hp w) S (l.map (·.1)) (l.map (·.2)) (fun _=>[]):=by
 refine⟨by simp,fun i y hy=>?_,fun _ _=>rfl,(fun i j b hb=>by cases hb),fun _=>.nil,(fun i b hb=>by cases hb)⟩;simp only[List.getElem?_map] at hy ⊢;cases hp:l[i]? with
 | none=>rw[hp] at hy;cases hy
 | some p =>
   rw[hp] at hy;cases hy;have:=hl p (List.mem_of_getElem? hp);exact⟨⟨p.2,rfl,this.1⟩,this.2⟩
theorem zpm {S:Hp}{k:IntKind}:∀ {xs:List Int} {cs:List Value},All (Rd S (.int k)) xs cs->cs=xs.map (fun x=>Value.int k x)
 | [],_,h=>h
 | x::xs,_,⟨c1,c2,e,h1,h2⟩=>by
   rw[e,show c1=[Value.int k x] from h1,zpm h2];rfl
section
variable {w0 w:World} {S0 S:Hp} {L:List (Nat×Array Value×Nat)}
theorem z1al (N:Nat)(hg:GlobOk glob S)(h:NSt w0 S0 w S L){b:Int}{x:List Int}(hx:z22 N b b=some x) :
 Calls Go.Proofs.Tryd.prog 11 #[.int .u8 b,.int .u8 b] w fun e w'=>∃ p q r t S',x=[p,q,r,t]/\e=.returned (.agg #[.int .u64 p,.int .u64 q,.int .u64 r,.int .u64 t])/\Lift.Sub S S'/\NSt w0 S0 w' S' L:=by
 refine (NSt.plain (z3e N) hg h (zhe [(.v (.int .u8) b,.int .u8 b),(.v (.int .u8) b,.int .u8 b)] (fun p hp=>by
  simp only[List.mem_cons,List.not_mem_nil,or_false,or_self] at hp;rw[hp];exact⟨⟨VR.int,rfl⟩,rfl⟩)) (y:=x) hx).mono ?_
 rintro e w' ⟨v,S',o',rfl,⟨hr,_⟩,hSS,hN⟩;obtain⟨cs,rfl,hl,ha⟩:=hr;have hc:=zpm ha
 match x,hl with
 | [p,q,r,t],_ =>
   refine⟨p,q,r,t,S',rfl,?_,hSS,hN⟩;congr 2;apply Array.toList_inj.1;rw[hc];rfl
theorem z1b6 (N:Nat)(hg:GlobOk glob S)(h:NSt w0 S0 w S L){xs:List (List Int)}{v:Value}(hv:VR S (.sl W4) xs v){bl:List Int}(hx:za5 N xs=some bl) :
 Calls Go.Proofs.Tryd.prog 12 #[v] w fun e w'=>∃ ad m cap S',m=bl.length/\e=.returned (.slice ad m cap)/\VR S' (.sl (.int .i64)) bl (.slice ad m cap)/\Lift.Sub S S'/\NSt w0 S0 w' S' L:=by
 refine (NSt.plain (zmr N) hg h (zhe [(.v (.sl W4) xs,v)] (fun p hp=>by
  rw[List.mem_singleton.1 hp];exact⟨⟨hv,rfl⟩,rfl⟩)) (y:=bl) hx).mono ?_
 rintro e w' ⟨v,S',o',rfl,⟨hr,_⟩,hSS,hN⟩;obtain⟨ad,cap,rfl,_⟩:=hr.sl_inv;exact⟨ad,_,cap,S',rfl,rfl,hr,hSS,hN⟩
theorem z1b8 (N:Nat)(hg:GlobOk glob S)(h:NSt w0 S0 w S L){bl:List Int}{v:Value}(hv:VR S (.sl (.int .i64)) bl v){c:Int}(hx:z42 N bl=some c) :
 Calls Go.Proofs.Tryd.prog 13 #[v] w fun e w'=>∃ S',e=.returned (.int .i64 c)/\Lift.Sub S S'/\NSt w0 S0 w' S' L:=by
 refine (NSt.plain (zck N) hg h (zhe [(.v (.sl (.int .i64)) bl,v)] (fun p hp=>by
  rw[List.mem_singleton.1 hp];exact⟨⟨hv,rfl⟩,rfl⟩)) (y:=c) hx).mono ?_
 rintro e w' ⟨v,S',o',rfl,⟨hr,_⟩,hSS,hN⟩;exact⟨S',by rw[VR.int_inv hr],hSS,hN⟩
end
theorem mk_w4 (w:World)(m:Nat)(hm:m<=1024):(Instr.makeSlice 44 (.int .i64 (m:Int)) (.int .i64 (m:Int))).run Go.Proofs.Tryd.prog w=.ok (.slice (some ⟨w.heap.size,0,none⟩) m m) (w.alloc (.cells (wv (List.replicate m [0,0,0,0])) 36)):=by
 have hz:(Go.Proofs.Tryd.prog.info? 36).map (fun i=>(i.zero,i.size,i.bytes))=some (some (.agg #[.int .u64 0,.int .u64 0,.int .u64 0,.int .u64 0]),4,32):=by kernel_rfl
 cases hi:Go.Proofs.Tryd.prog.info? 36 with
 | none=>rw[hi] at hz;cases hz
 | some inf =>
   rw[hi] at hz;simp only[Option.map_some,Option.some.injEq,Prod.mk.injEq] at hz;obtain⟨h4,hs,hby⟩:=hz;have:=run_makeSlice (P:=Go.Proofs.Tryd.prog) w 44 36 inf (.agg #[.int .u64 0,.int .u64 0,.int .u64 0,.int .u64 0]) Go.Proofs.Tryd.underlying44 hi h4 .i64 .i64 (m:Int) (m:Int) (by omega) (Int.le_refl _) (by rw[hs,Int.toNat_natCast];omega) (by rw[hby];omega) (by omega);rw[this,hs,Int.toNat_natCast];show Result.ok _ (w.alloc (.cells (madeCells #[.int .u64 0,.int .u64 0,.int .u64 0,.int .u64 0] (m*4)) _))=_;rw[z186]
theorem zvg:(Go.Proofs.Tryd.prog.info? 4).map (fun i=>(i.zero,i.size,i.bytes))=some (some (.bool false),1,1):=by kernel_rfl
theorem zzg:(Go.Proofs.Tryd.prog.info? 3).map (fun i=>(i.zero,i.size,i.bytes))=some (some (.int .i64 0),1,8):=by kernel_rfl
theorem zvf:(Go.Proofs.Tryd.prog.info? 24).map (fun i=>(i.zero,i.size,i.bytes))=some (some (.slice none 0 0),1,24):=by kernel_rfl
def z13b (w0:World)(S0:Hp)(sets:List (List Int))(n j p2 p4:Nat)(w:World):Prop :=
 ∃ S,Lift.Sub S0 S/\NSt w0 S0 w S [(p4,wv (sets.take j++List.replicate (n - j) [0,0,0,0]),36),(p2,#[.int .i64 0,.slice none 0 0,.slice none 0 0,.slice none 0 0],27)]
theorem z110 {w0 w:World}{S0 S:Hp}{sets:List (List Int)}{n j p2 p4:Nat}(hlen:sets.length=n)(h4:∀ x∈sets,x.length=4)(hj:j<n)(h24:p2≠p4)(hS:Lift.Sub S0 S)
 (h:NSt w0 S0 w S [(p4,wv (sets.take j++List.replicate (n - j) [0,0,0,0]),36),(p2,#[.int .i64 0,.slice none 0 0,.slice none 0 0,.slice none 0 0],27)])
 {p q r t:Int} (hx:sets.getD j []=[p,q,r,t]) :
 z13b w0 S0 sets n (j+1) p2 p4 ((((w.setCell ⟨p4,j*4,none⟩ (.int .u64 p)).setCell ⟨p4,j*4+1,none⟩ (.int .u64 q)).setCell ⟨p4,j*4+2,none⟩ (.int .u64 r)).setCell ⟨p4,j*4+3,none⟩ (.int .u64 t)):=by
 have hd:∀ q∈[(p2,(#[.int .i64 0,.slice none 0 0,.slice none 0 0,.slice none 0 0]:Array Value),27)],q.1≠p4:=fun q hq=>by rw[List.mem_singleton.1 hq];exact h24
 refine⟨S,hS,?_⟩;have h1:=(((h.set hd (j*4) (.int .u64 p)).set hd (j*4+1) (.int .u64 q)).set hd (j*4+2) (.int .u64 r)).set hd (j*4+3) (.int .u64 t);have e1:List.replicate (n - j) ([0,0,0,0]:List Int)=[0,0,0,0]::List.replicate (n - (j+1)) [0,0,0,0]:=by
  rw[show n - j=(n - (j+1))+1 by omega,List.replicate_succ]
 have e2:sets.take (j+1)=sets.take j++[[p,q,r,t]]:=by
  rw[List.take_succ,<- hx];congr 1;rw[List.getD_eq_getElem?_getD,List.getElem?_eq_getElem (by omega)];rfl
 rw[e1,z1cs (fun x hx=>h4 x (List.mem_of_mem_take hx)) (by rw[List.length_take];omega)] at h1;rw[e2,List.append_assoc];exact h1
theorem wv_at {pre post:List (List Int)}{i k:Nat}{x:List Int}(hp:∀ y∈pre,y.length=4)(hi:pre.length=i)(hk:k<x.length):(wv (pre++x::post))[i*4+k]?=some (.int .u64 (x.getD k 0)):=by
 have hl:=z15g hp;rw[hi] at hl;simp only[wv,List.flatMap_append,List.flatMap_cons,List.getElem?_toArray];rw[List.getElem?_append_right (by omega),hl,show i*4+k - 4*i=k by omega,List.getElem?_append_left (by rw[List.length_map];exact hk)];simp[List.getD,hk]
theorem zyx {w0 w:World}{S0 S:Hp}{L:List (Nat×Array Value×Nat)}{cs:Array Value}{j p4 E:Nat}(h:NSt w0 S0 w S ((p4,cs,E)::L))(hd:∀ q∈L,q.1≠p4){z:Value}(hc:∀ k,k<4->cs[j*4+k]?=some z)(p q r:Value) :
 (∀ k,k<4->w.cell? ⟨p4,j*4+k,none⟩=some z/\w.frozen? ⟨p4,j*4+k,none⟩=false) ∧
 (∀ k,0<k->k<4->(w.setCell ⟨p4,j*4,none⟩ p).cell? ⟨p4,j*4+k,none⟩=some z/\(w.setCell ⟨p4,j*4,none⟩ p).frozen? ⟨p4,j*4+k,none⟩=false) ∧
 (∀ k,1<k->k<4->((w.setCell ⟨p4,j*4,none⟩ p).setCell ⟨p4,j*4+1,none⟩ q).cell? ⟨p4,j*4+k,none⟩=some z/\((w.setCell ⟨p4,j*4,none⟩ p).setCell ⟨p4,j*4+1,none⟩ q).frozen? ⟨p4,j*4+k,none⟩=false) ∧
 (∀ k,2<k->k<4->(((w.setCell ⟨p4,j*4,none⟩ p).setCell ⟨p4,j*4+1,none⟩ q).setCell ⟨p4,j*4+2,none⟩ r).cell? ⟨p4,j*4+k,none⟩=some z/\(((w.setCell ⟨p4,j*4,none⟩ p).setCell ⟨p4,j*4+1,none⟩ q).setCell ⟨p4,j*4+2,none⟩ r).frozen? ⟨p4,j*4+k,none⟩=false):=by
 have h1:=h.set hd (j*4) p;have h2:=h1.set hd (j*4+1) q;have h3:=h2.set hd (j*4+2) r;have ne:∀ (cs:Array Value) (a b:Nat) (v:Value),a≠b->(cs.setIfInBounds a v)[b]?=cs[b]?:=fun cs a b v hab=>by rw[Array.getElem?_setIfInBounds_ne hab]
 refine⟨fun k hk=>⟨h.cell (.head _) (hc k hk),h.free (.head _)⟩,fun k h0 hk=>⟨h1.cell (.head _) (by rw[ne _ _ _ _ (by omega)];exact hc k hk),h1.free (.head _)⟩,fun k h0 hk=>⟨h2.cell (.head _) (by rw[ne _ _ _ _ (by omega),ne _ _ _ _ (by omega)];exact hc k hk),h2.free (.head _)⟩,fun k h0 hk=>⟨h3.cell (.head _) (by rw[ne _ _ _ _ (by omega),ne _ _ _ _ (by omega),ne _ _ _ _ (by omega)];exact hc k hk),h3.free (.head _)⟩⟩
theorem zke {z:Value}{n i:Nat}(h:i<n):(madeCells #[z] n)[i]?=some z:=by
 simp[madeCells,h,Nat.mod_one]
theorem zjd {z:Value}{n:Nat}:(madeCells #[z] n).size=n:=by simp[madeCells]
theorem z15h {x:Int}(h:-9223372036854775808<=x/\x<=9223372036854775807):IntKind.wrap .i64 x=x:=by
 simp only[IntKind.wrap,IntKind.bits,IntKind.signed,Bool.true_and,decide_eq_true_eq,Nat.add_one_sub_one,Int.reducePow,ge_iff_le];split<;>omega
theorem z163 {S:Hp}:∀ {xs:List (List Int)},(∀ x∈xs,x.length=4)->All (Rd S W4) xs (xs.flatMap fun x=>x.map (Value.int .u64))
 | [],_=>rfl
 | x :: xs,h=>by
   refine⟨x.map (Value.int .u64),xs.flatMap fun x=>x.map (Value.int .u64),rfl,⟨h x (.head _),?_⟩,z163 (fun y hy=>h y (.tail _ hy))⟩;have:∀ l:List Int,All (Rd S (.int .u64)) l (l.map (Value.int .u64)):=by
    intro l
    induction l with
    | nil=>rfl
    | cons a l ih=>exact⟨[.int .u64 a],l.map (Value.int .u64),rfl,rfl,ih⟩
   exact this x
theorem z111 {S:Hp}{b n:Nat}{xs:List (List Int)}{E:Nat}{fr:Nat×Nat}(hS:S b=some (.cells (wv xs) E fr))(h4:∀ x∈xs,x.length=4)(hn:n=xs.length):VR S (.sl W4) xs (.slice (some ⟨b,0,none⟩) n n):=by
 subst hn;exact VR.of_one rfl ⟨_,xs.length,rfl,Nat.le_refl _,.inr ⟨b,0,(xs.flatMap fun x=>x.map (Value.int .u64)),rfl,⟨_,_,_,[],[],hS,by simp[wv],rfl⟩,z163 h4⟩⟩
theorem z24 {w0 w:World}{S0 S:Hp}{L:List (Nat×Array Value×Nat)}{bd E:Nat}{a0 a1 a2 a3:Value}(h:NSt w0 S0 w S L)(hm:(bd,#[a0,a1,a2,a3],E)∈L) :
 (w.cell? ⟨bd,0,none⟩=some a0/\w.cell? ⟨bd,1,none⟩=some a1/\w.cell? ⟨bd,2,none⟩=some a2/\w.cell? ⟨bd,3,none⟩=some a3/\w.frozen? ⟨bd,0,none⟩=false/\w.frozen? ⟨bd,1,none⟩=false/\w.frozen? ⟨bd,2,none⟩=false/\w.frozen? ⟨bd,3,none⟩=false) ∧
 (∀ p,(w.setCell ⟨bd,0,none⟩ p).cell? ⟨bd,1,none⟩=some a1/\(w.setCell ⟨bd,0,none⟩ p).cell? ⟨bd,2,none⟩=some a2/\(w.setCell ⟨bd,0,none⟩ p).cell? ⟨bd,3,none⟩=some a3/\(w.setCell ⟨bd,0,none⟩ p).frozen? ⟨bd,1,none⟩=false/\(w.setCell ⟨bd,0,none⟩ p).frozen? ⟨bd,2,none⟩=false/\(w.setCell ⟨bd,0,none⟩ p).frozen? ⟨bd,3,none⟩=false) ∧
 (∀ p q,((w.setCell ⟨bd,0,none⟩ p).setCell ⟨bd,1,none⟩ q).cell? ⟨bd,2,none⟩=some a2/\((w.setCell ⟨bd,0,none⟩ p).setCell ⟨bd,1,none⟩ q).cell? ⟨bd,3,none⟩=some a3/\((w.setCell ⟨bd,0,none⟩ p).setCell ⟨bd,1,none⟩ q).frozen? ⟨bd,2,none⟩=false/\((w.setCell ⟨bd,0,none⟩ p).setCell ⟨bd,1,none⟩ q).frozen? ⟨bd,3,none⟩=false) ∧
 (∀ p q r,(((w.setCell ⟨bd,0,none⟩ p).setCell ⟨bd,1,none⟩ q).setCell ⟨bd,2,none⟩ r).cell? ⟨bd,3,none⟩=some a3/\(((w.setCell ⟨bd,0,none⟩ p).setCell ⟨bd,1,none⟩ q).setCell ⟨bd,2,none⟩ r).frozen? ⟨bd,3,none⟩=false):=by
 have h0:RowAt w bd [a0,a1,a2,a3] E:=(h.own _ hm).2.2;exact⟨⟨h0.cell rfl,h0.cell rfl,h0.cell rfl,h0.cell rfl,h0.free,h0.free,h0.free,h0.free⟩,
  fun p=>⟨(h0.set 0 p).cell rfl,(h0.set 0 p).cell rfl,(h0.set 0 p).cell rfl,(h0.set 0 p).free,(h0.set 0 p).free,(h0.set 0 p).free⟩,
  fun p q=>⟨((h0.set 0 p).set 1 q).cell rfl,((h0.set 0 p).set 1 q).cell rfl,((h0.set 0 p).set 1 q).free,((h0.set 0 p).set 1 q).free⟩,
  fun p q r=>⟨(((h0.set 0 p).set 1 q).set 2 r).cell rfl,(((h0.set 0 p).set 1 q).set 2 r).free⟩⟩
def zlz (w0:World)(S0:Hp)(n:Nat)(bl:List Int)(s6:Value)(w:World):Prop :=
 ∃ S ad m cap bd bf bn,s6=.pointer (some ⟨bd,0,none⟩)/\Lift.Sub S0 S/\m=bl.length/\VR S (.sl (.int .i64)) bl (.slice ad m cap)/\bd≠bf/\bd≠bn/\bf≠bn/\w0.heap.size≠bd/\w0.heap.size≠bf/\w0.heap.size≠bn ∧
 NSt w0 S0 w S [(bd,#[.int .i64 0,.slice (some ⟨bf,0,none⟩) (n+2) (n+2),.slice ad m cap,.slice (some ⟨bn,0,none⟩) (n+2) (n+2)],27),(bf,madeCells #[.bool false] (n+2),4),(bn,madeCells #[.slice none 0 0] (n+2),24),(w0.heap.size,#[.int .i64 0,.slice none 0 0,.slice none 0 0,.slice none 0 0],27)]
theorem zy7 {w0 W:World}{S0 S:Hp}{n m cap bd bf bn:Nat}{ad:Option Addr}{bl:List Int}(hS:Lift.Sub S0 S)(hm:m=bl.length)(hu:VR S (.sl (.int .i64)) bl (.slice ad m cap))(i1:bd≠bf/\bd≠bn/\bf≠bn/\w0.heap.size≠bd/\w0.heap.size≠bf/\w0.heap.size≠bn)
 (h:NSt w0 S0 W S [(bd,#[.int .i64 0,.slice (some ⟨bf,0,none⟩) (n+2) (n+2),.slice ad m cap,.slice (some ⟨bn,0,none⟩) (n+2) (n+2)],27),(bf,madeCells #[.bool false] (n+2),4),(bn,madeCells #[.slice none 0 0] (n+2),24),(w0.heap.size,#[.int .i64 0,.slice none 0 0,.slice none 0 0,.slice none 0 0],27)]) :
 zlz w0 S0 n bl (.pointer (some ⟨bd,0,none⟩)) W:=⟨S,ad,m,cap,bd,bf,bn,rfl,hS,hm,hu,i1.1,i1.2.1,i1.2.2.1,i1.2.2.2.1,i1.2.2.2.2.1,i1.2.2.2.2.2,h⟩
theorem z1gv {w0 W:World}{S0 S:Hp}{n m cap bd bf bn:Nat}{ad:Option Addr}{bl:List Int}(hS:Lift.Sub S0 S)(hm:m=bl.length)(hu:VR S (.sl (.int .i64)) bl (.slice ad m cap))(i1:bd≠bf/\bd≠bn/\bf≠bn/\w0.heap.size≠bd/\w0.heap.size≠bf/\w0.heap.size≠bn)
 (h:NSt w0 S0 (W.alloc (.cells #[.int .i64 0,.slice (some ⟨bf,0,none⟩) (n+2) (n+2),.slice ad m cap,.slice (some ⟨bn,0,none⟩) (n+2) (n+2)] 27)) S [(bd,#[.int .i64 0,.slice (some ⟨bf,0,none⟩) (n+2) (n+2),.slice ad m cap,.slice (some ⟨bn,0,none⟩) (n+2) (n+2)],27),(bf,madeCells #[.bool false] (n+2),4),(bn,madeCells #[.slice none 0 0] (n+2),24),(w0.heap.size,#[.int .i64 0,.slice none 0 0,.slice none 0 0,.slice none 0 0],27)]) :
 zlz w0 S0 n bl (.pointer (some ⟨bd,0,none⟩)) (W.alloc (.cells #[.int .i64 0,.slice (some ⟨bf,0,none⟩) (n+2) (n+2),.slice ad m cap,.slice (some ⟨bn,0,none⟩) (n+2) (n+2)] 27)):=zy7 hS hm hu i1 h
theorem z185 {w0 W:World}{o:Obj}{S0 S:Hp}{n m cap bd bf bn:Nat}{ad:Option Addr}{bl:List Int}(hS:Lift.Sub S0 S)(hm:m=bl.length)(hu:VR S (.sl (.int .i64)) bl (.slice ad m cap))(i1:bd≠bf/\bd≠bn/\bf≠bn/\w0.heap.size≠bd/\w0.heap.size≠bf/\w0.heap.size≠bn)
 (h:NSt w0 S0 ((W.alloc (.cells #[.int .i64 0,.slice (some ⟨bf,0,none⟩) (n+2) (n+2),.slice ad m cap,.slice (some ⟨bn,0,none⟩) (n+2) (n+2)] 27)).alloc o) S [(bd,#[.int .i64 0,.slice (some ⟨bf,0,none⟩) (n+2) (n+2),.slice ad m cap,.slice (some ⟨bn,0,none⟩) (n+2) (n+2)],27),(bf,madeCells #[.bool false] (n+2),4),(bn,madeCells #[.slice none 0 0] (n+2),24),(w0.heap.size,#[.int .i64 0,.slice none 0 0,.slice none 0 0,.slice none 0 0],27)]) :
 zlz w0 S0 n bl (.pointer (some ⟨bd,0,none⟩)) ((W.alloc (.cells #[.int .i64 0,.slice (some ⟨bf,0,none⟩) (n+2) (n+2),.slice ad m cap,.slice (some ⟨bn,0,none⟩) (n+2) (n+2)] 27)).alloc o):=zy7 hS hm hu i1 h
theorem z184 {w0 W:World}{o o':Obj}{S0 S:Hp}{n m cap bd bf bn:Nat}{ad:Option Addr}{bl:List Int}(hS:Lift.Sub S0 S)(hm:m=bl.length)(hu:VR S (.sl (.int .i64)) bl (.slice ad m cap))(i1:bd≠bf/\bd≠bn/\bf≠bn/\w0.heap.size≠bd/\w0.heap.size≠bf/\w0.heap.size≠bn)
 (h:NSt w0 S0 (((W.alloc (.cells #[.int .i64 0,.slice (some ⟨bf,0,none⟩) (n+2) (n+2),.slice ad m cap,.slice (some ⟨bn,0,none⟩) (n+2) (n+2)] 27)).alloc o).alloc o') S [(bd,#[.int .i64 0,.slice (some ⟨bf,0,none⟩) (n+2) (n+2),.slice ad m cap,.slice (some ⟨bn,0,none⟩) (n+2) (n+2)],27),(bf,madeCells #[.bool false] (n+2),4),(bn,madeCells #[.slice none 0 0] (n+2),24),(w0.heap.size,#[.int .i64 0,.slice none 0 0,.slice none 0 0,.slice none 0 0],27)]) :
 zlz w0 S0 n bl (.pointer (some ⟨bd,0,none⟩)) (((W.alloc (.cells #[.int .i64 0,.slice (some ⟨bf,0,none⟩) (n+2) (n+2),.slice ad m cap,.slice (some ⟨bn,0,none⟩) (n+2) (n+2)] 27)).alloc o).alloc o'):=zy7 hS hm hu i1 h
theorem z183 {w0 W:World}{S0 S:Hp}{n m cap bd bf bn:Nat}{ad:Option Addr}{bl:List Int}(hS:Lift.Sub S0 S)(hm:m=bl.length)(hu:VR S (.sl (.int .i64)) bl (.slice ad m cap))(i1:bd≠bf/\bd≠bn/\bf≠bn/\w0.heap.size≠bd/\w0.heap.size≠bf/\w0.heap.size≠bn)
 (h:NSt w0 S0 W S [(bd,#[.int .i64 0,.slice none 0 0,.slice none 0 0,.slice none 0 0],27),(bf,madeCells #[.bool false] (n+2),4),(bn,madeCells #[.slice none 0 0] (n+2),24),(w0.heap.size,#[.int .i64 0,.slice none 0 0,.slice none 0 0,.slice none 0 0],27)]) :
 zlz w0 S0 n bl (.pointer (some ⟨bd,0,none⟩)) ((((W.setCell ⟨bd,0,none⟩ (.int .i64 0)).setCell ⟨bd,1,none⟩ (.slice (some ⟨bf,0,none⟩) (n+2) (n+2))).setCell ⟨bd,2,none⟩ (.slice ad m cap)).setCell ⟨bd,3,none⟩ (.slice (some ⟨bn,0,none⟩) (n+2) (n+2))):=by
 have hd:∀ q∈[(bf,madeCells #[.bool false] (n+2),4),(bn,madeCells #[.slice none 0 0] (n+2),24),(w0.heap.size,(#[.int .i64 0,.slice none 0 0,.slice none 0 0,.slice none 0 0]:Array Value),27)],q.1≠bd:=by
  intro q hq;simp only[List.mem_cons,List.not_mem_nil,or_false] at hq;rcases hq with rfl|rfl|rfl
  . exact Ne.symm i1.1
  . exact Ne.symm i1.2.1
  . exact i1.2.2.2.1
 exact zy7 hS hm hu i1 ((((h.set hd 0 _).set hd 1 _).set hd 2 _).set hd 3 _)
theorem zol {S:Hp}{b off:Nat}{c1:List Value}(hl:Lies S b off c1){w:World}(hw:Lift.Sub S (hp w)){j:Nat}{u:Value}(hu:c1[j]?=some u):w.cell? ⟨b,off+j,none⟩=some u:=by
 obtain⟨all,E,fr,c0,c2,q1,q2,q3⟩:=hl;have hb:w.heap[b]?=some (.cells all E fr):=hw _ _ q1;have:all[off+j]?=some u:=by
  rw[<- Array.getElem?_toList,q2,List.getElem?_append_right (by omega),q3,show off+j - off=j by omega,List.getElem?_append_left (List.getElem?_eq_some_iff.1 hu).1];exact hu
 simp[World.cell?,hb,this]
theorem zx7 {W:World}{p2:Nat}{v0 v1 v2 v3:Value}{e:Int}{tmps:Array Value}(h4:tmps.getD 2 undef=.pointer (some ⟨p2,0,none⟩))(h5:tmps.getD 3 undef=.int .i64 e)(h:RowAt W p2 [v0,v1,v2,v3] 27) :
 (results Go.Proofs.Tryd.f5 tmps).run Go.Proofs.Tryd.prog W=.ok (.tuple #[.agg #[v0,v1,v2,v3],.int .i64 e]) W:=by
 have c0:=h.cell (i:=0) rfl;have c1:=h.cell (i:=1) rfl;have c2:=h.cell (i:=2) rfl;have c3:=h.cell (i:=3) rfl;rw[results_cell_tmp rfl,h4,h5];simp[asAddr,Go.loadVar,go_sem,c0,c1,c2,c3]
structure WEnd (w:World) (S S5:Hp) (bf bn j c R:Nat) (Z:Nat->Nat->Int) (W:World):Prop where
 st:NSt w S W S5 [(bf,(madeCells #[.bool false] (j+2)).setIfInBounds j (.bool true),4)]
 top:W.rowIs bn 24 (j+2) (fun a=>.slice (some ⟨R+a,0,none⟩) c c)
 rows:∀ a,a<j+2->W.rowIs (R+a) 3 c (fun i=>.int .i64 (Z a i))
 low:w.heap.size<=bn/\w.heap.size<=R
theorem WSt.fin18 {w W:World}{S S5:Hp}{bd bf bn j c R m cap:Nat}{ad:Option Addr}{Z:Nat->Nat->Int}
 (h:WSt w S S5 [(bd,#[.int .i64 0,.slice (some ⟨bf,0,none⟩) (j+2) (j+2),.slice ad m cap,.slice (some ⟨bn,0,none⟩) (j+2) (j+2)],27),(bf,(madeCells #[.bool false] (j+2)).setIfInBounds j (.bool true),4),(w.heap.size,#[.int .i64 0,.slice none 0 0,.slice none 0 0,.slice none 0 0],27)] bn (j+2) c R 24 3 (j+2) Z W) (n4:w.heap.size≠bd) (n5:w.heap.size≠bf) (v0 v1 v2 v3:Value) :
 WEnd w S S5 bf bn j c R Z ((((W.setCell ⟨w.heap.size,0,none⟩ v0).setCell ⟨w.heap.size,1,none⟩ v1).setCell ⟨w.heap.size,2,none⟩ v2).setCell ⟨w.heap.size,3,none⟩ v3):=by
 have hp:w.heap.size<R:=h.Llt _ (.tail _ (.tail _ (.head _)));have hbn:w.heap.size≠bn:=h.bnL _ (.tail _ (.tail _ (.head _)));have h1:=h.st.swap (L':=[(w.heap.size,#[.int .i64 0,.slice none 0 0,.slice none 0 0,.slice none 0 0],27),(bf,(madeCells #[.bool false] (j+2)).setIfInBounds j (.bool true),4)]) (by intro p hp;simp only[List.mem_cons,List.not_mem_nil,or_false] at hp ⊢;rcases hp with rfl|rfl<;>simp);have hd:∀ q∈[(bf,(madeCells #[.bool false] (j+2)).setIfInBounds j (.bool true),4)],q.1≠w.heap.size:=fun q hq=>by rw[List.mem_singleton.1 hq];exact Ne.symm n5
 refine⟨((((h1.set hd 0 v0).set hd 1 v1).set hd 2 v2).set hd 3 v3).swap (fun p hp=>List.mem_cons_of_mem _ hp),?_,fun a ha=>?_,h.low,by omega⟩
 . exact (((((h.top.congr (fun a ha=>by rw[if_pos ha])).setOther (by exact Ne.symm hbn) v0).setOther (by exact Ne.symm hbn) v1).setOther (by exact Ne.symm hbn) v2).setOther (by exact Ne.symm hbn) v3)
 . have hne:R+a≠w.heap.size:=by omega
   exact (((((h.rows a ha)).setOther (by exact hne) v0).setOther (by exact hne) v1).setOther (by exact hne) v2).setOther (by exact hne) v3
set_option maxHeartbeats 30000000 in
theorem z10l (N : Nat) {w:World} {S:Hp} (hS:Lift.Sub S (hp w)) (hg:GlobOk glob S) {s:List UInt8} {n:Nat} (hn:s.length=n) (hs:n<=1024) {sets:List (List Int)} (hsets:zhh N s=some sets) (h4:∀ x∈sets,x.length=4) {bl:List Int} (hb:za5 N sets=some bl) {c:Nat} (hcc:z42 N bl=some (c:Int)) (hc256:c<=256) (hall:∀ i,i<n->(s.getD i 0).toNat<bl.length/\0<=bl.getD (s.getD i 0).toNat 0/\bl.getD (s.getD i 0).toNat 0<c) {R:Ending->World->Prop}
 (HR:Go.RowKit.Hid (∀ W S5 ad m cap bf bn R0,m=bl.length->VR S5 (.sl (.int .i64)) bl (.slice ad m cap)->WEnd w S S5 bf bn n c R0 (fun a b=>if a<n/\b=zlv bl s a then (a:Int)+1 else (n:Int)+1) W->R (.returned (.tuple #[.agg #[.int .i64 0,.slice (some ⟨bf,0,none⟩) (n+2) (n+2),.slice ad m cap,.slice (some ⟨bn,0,none⟩) (n+2) (n+2)],.int .i64 0])) W)):Calls Go.Proofs.Tryd.prog 5 #[.string ⟨⟨s⟩⟩] w R:=by
 have hmk:∀ W:World,(Instr.makeSlice 44 (.int .i64 (n:Int)) (.int .i64 (n:Int))).run Go.Proofs.Tryd.prog W=_:=fun W=>mk_w4 W n hs
 have hgt:decide ((1024:Int)<(n:Int))=false:=decide_eq_false (by omega);have h00:z13b w S sets n 0 w.heap.size (w.heap.size+1) ((w.alloc (.cells #[.int .i64 0,.slice none 0 0,.slice none 0 0,.slice none 0 0] 27)).alloc (.cells (wv (List.replicate n [0,0,0,0])) 36)) :=
  ⟨S,Lift.Sub.refl _,((NSt.start hS).new' (p:=w.heap.size) rfl _ _).new' (p:=w.heap.size+1) (zeh _ _) _ _⟩
 have hat:=znm N s sets hsets;have H0:=Go.Lib.hid h00;have HA:=Go.Lib.hid hat;have H4:=Go.Lib.hid h4;have HALL:=Go.Lib.hid hall;clear h00 hat hsets h4 hall
 go_enter Go.Proofs.Tryd.func5,Go.Proofs.Tryd.ntmps5
 go_wp2
 go_loopg [21] n (fun g i wr=>∃ j:Nat,j<=n/\g=n - j/\i=.int .i64 j/\z13b w S sets n j w.heap.size (w.heap.size+1) wr)
 case atStart=>exact⟨0,Nat.zero_le _,rfl,rfl,H0.out⟩
 case round =>
  obtain⟨j,hj,rfl,rfl,S1,hSS,hN⟩:=hrel;by_cases hjn:j<n
  . have hjz:(j:Int)<(n:Int):=by omega
    have hjd:decide ((j:Int)<(n:Int))=true:=decide_eq_true hjz;have h0:(0:Int)<=j:=by omega
    have hjl:(j:Int)<(s.length:Int):=by omega
    obtain⟨b,hb⟩:∃ b,b=s.getD j 0:=⟨_,rfl⟩
    have h1:j<(⟨⟨s⟩⟩:ByteArray).size:=by rw[zb1];omega
    have hget:(⟨⟨s⟩⟩:ByteArray)[j]=b:=by
     have h2:j<s.length:=by omega
     simp[hb,List.getD,h2,ByteArray.getElem_eq_getElem_data]
    have hx0:=HA.out.2 j (by omega);rw[<- hb] at hx0;have hcall:∀ w1,NSt w S w1 S1 [(w.heap.size+1,wv (sets.take j++List.replicate (n - j) [0,0,0,0]),36),(w.heap.size,#[.int .i64 0,.slice none 0 0,.slice none 0 0,.slice none 0 0],27)]->_:=fun w1 h=>z1al N (hg.mono hSS) h hx0
    have y0:=hN;have HB:=Go.Lib.hid hb;clear hN hjl hb hx0;have HSS:=Go.Lib.hid hSS;clear hSS;have hz:=Go.Lib.hid (show ∀ k,k<4->(wv (sets.take j++List.replicate (n - j) [0,0,0,0]))[j*4+k]?=some (.int .u64 0) from fun k hk=>by
     rw[show n - j=(n - (j+1))+1 by omega,List.replicate_succ,wv_at (fun x hx=>H4.out x (List.mem_of_mem_take hx)) (by rw[List.length_take,HA.out.1];omega) hk]
     match k,hk with
     | 0,_=>rfl
     | 1,_=>rfl
     | 2,_=>rfl
     | 3,_=>rfl)
    go_wp2_with (fail)
    go_region_held3 (fun _=>True) (exact trivial)
     (first|(go_at_call 11;refine (hcall _ (by first|exact y0.drew|exact y0)).mono ?_;rintro _ w2 ⟨p,q,r,t,S2,hx,rfl,hS2,hN2⟩;have hf:=zyx (j:=j) hN2 (fun q hq=>by rw[List.mem_singleton.1 hq];exact Nat.ne_of_lt (Nat.lt_succ_self _)) (hz.out) (.int .u64 p) (.int .u64 q) (.int .u64 r);have a0:=hf.1 0 (by decide);have a1:=hf.1 1 (by decide);have a2:=hf.1 2 (by decide);have a3:=hf.1 3 (by decide);have b1:=hf.2.1 1 (by decide) (by decide);have b2:=hf.2.1 2 (by decide) (by decide);have b3:=hf.2.1 3 (by decide) (by decide);have c2:=hf.2.2.1 2 (by decide) (by decide);have c3:=hf.2.2.1 3 (by decide) (by decide);have d3:=hf.2.2.2 3 (by decide) (by decide);simp only[Nat.add_zero] at a0;obtain⟨a01,a02⟩:=a0;obtain⟨a11,a12⟩:=a1;obtain⟨a21,a22⟩:=a2;obtain⟨a31,a32⟩:=a3;obtain⟨b11,b12⟩:=b1;obtain⟨b21,b22⟩:=b2;obtain⟨b31,b32⟩:=b3;obtain⟨c21,c22⟩:=c2;obtain⟨c31,c32⟩:=c3;obtain⟨d31,d32⟩:=d3;have HN2:=Go.Lib.hid (And.intro hx (And.intro hS2 hN2));clear hf hx hS2 hN2))
    all_goals (
     go_wp2
     go_roundg (n - (j+1))
     case measure=>go_light;omega
     case rel =>
      go_light
      exact⟨j+1,by omega,rfl,by simp,z110 (by rw[HA.out.1];exact hn) H4.out hjn (by omega) (HSS.out.trans HN2.out.2.1) HN2.out.2.2 HN2.out.1⟩)
  . obtain rfl:j=n:=by omega
    have hjd:decide ((j:Int)<(j:Int))=false:=decide_eq_false (by omega);have hjz:¬ ((j:Int)<(j:Int)):=by omega
    rw[Nat.sub_self,List.replicate_zero,List.append_nil,List.take_of_length_le (by rw[HA.out.1];omega)] at hN;have hgv:=hN.give (fun q hq=>by rw[List.mem_singleton.1 hq];exact Nat.ne_of_lt (Nat.lt_succ_self _));obtain⟨S3,hS3⟩:∃ S3,S3=(fun k=>if k=w.heap.size+1 then some (.cells (wv sets) 36 (0,0)) else S1 k):=⟨_,rfl⟩
    rw[<- hS3] at hgv;have hsv:VR S3 (.sl W4) sets (.slice (some ⟨w.heap.size+1,0,none⟩) j j):=by
     rw[hS3];exact z111 (if_pos rfl) H4.out (by rw[HA.out.1];omega)
    have hbl:∀ w1 L,NSt w S w1 S3 L->_:=fun w1 L h=>z1b6 N (hg.mono (hSS.trans hgv.2)) h hsv hb
    have y0:=hgv.1;have hwr:IntKind.i64.wrap ((j:Int)+2)=(j:Int)+2:=z15h (by omega);have hmk22:∀ W:World,(Instr.makeSlice 23 (.int .i64 ((j:Int)+2)) (.int .i64 ((j:Int)+2))).run Go.Proofs.Tryd.prog W=.ok (.slice (some ⟨W.heap.size,0,none⟩) (j+2) (j+2)) (W.alloc (.cells (madeCells #[.bool false] (j+2)) 4)):=fun W=>run_make_row' (P:=Go.Proofs.Tryd.prog) 23 4 (.bool false) 1 Go.Proofs.Tryd.underlying23 zvg rfl .i64 .i64 (j+2) (by omega) (by omega) W
    have hmk24:∀ W:World,(Instr.makeSlice 25 (.int .i64 ((j:Int)+2)) (.int .i64 ((j:Int)+2))).run Go.Proofs.Tryd.prog W=.ok (.slice (some ⟨W.heap.size,0,none⟩) (j+2) (j+2)) (W.alloc (.cells (madeCells #[.slice none 0 0] (j+2)) 24)):=fun W=>run_make_row' (P:=Go.Proofs.Tryd.prog) 25 24 (.slice none 0 0) 24 Go.Proofs.Tryd.underlying25 zvf rfl .i64 .i64 (j+2) (by omega) (by omega) W
    have HSS:=Go.Lib.hid (hSS.trans hgv.2);have HSZ:=Go.Lib.hid (hN.lt _ (.head _));clear hN hSS hgv hS3 hsv hb
    go_wp2_with (fail)
    go_cut [6] from 35 to 45 (fun s6 wc=>zlz w S j bl s6 wc)
    case first =>
     go_region_held3 (fun _=>True) (exact trivial)
      (first
       | (go_at_call 12;refine (hbl _ _ (y0.drew)).mono ?_;rintro _ w2 ⟨ad,m,cap,S4,hm,rfl,hu,hS4,hN4⟩;(try have dh:=z24 hN4 (.head _));(try have dt:=z24 hN4 (.tail _ (.head _)));(try have du:=z24 hN4 (.tail _ (.tail _ (.head _))));(try have eh:=fun cs E=>z24 (hN4.alloc cs E) (.tail _ (.head _)));(try have et:=fun cs E=>z24 (hN4.alloc cs E) (.tail _ (.tail _ (.head _))));(try have fh:=fun cs E cs' E'=>z24 ((hN4.alloc cs E).alloc cs' E') (.tail _ (.tail _ (.head _))));have HN4:=Go.Lib.hid (And.intro hm (And.intro hu (And.intro hS4 hN4)));clear hm hu hS4 hN4)
       | (go_at_call 12;refine (hbl _ _ ((y0.new' (p:=wr.heap.size) rfl _ _).drew)).mono ?_;rintro _ w2 ⟨ad,m,cap,S4,hm,rfl,hu,hS4,hN4⟩;(try have dh:=z24 hN4 (.head _));(try have dt:=z24 hN4 (.tail _ (.head _)));(try have du:=z24 hN4 (.tail _ (.tail _ (.head _))));(try have eh:=fun cs E=>z24 (hN4.alloc cs E) (.tail _ (.head _)));(try have et:=fun cs E=>z24 (hN4.alloc cs E) (.tail _ (.tail _ (.head _))));(try have fh:=fun cs E cs' E'=>z24 ((hN4.alloc cs E).alloc cs' E') (.tail _ (.tail _ (.head _))));have HN4:=Go.Lib.hid (And.intro hm (And.intro hu (And.intro hS4 hN4)));clear hm hu hS4 hN4)
       | (go_at_call 12;refine (hbl _ _ (((y0.new' (p:=wr.heap.size) rfl _ _).new' (p:=wr.heap.size+1) (zeh _ _) _ _).drew)).mono ?_;rintro _ w2 ⟨ad,m,cap,S4,hm,rfl,hu,hS4,hN4⟩;(try have dh:=z24 hN4 (.head _));(try have dt:=z24 hN4 (.tail _ (.head _)));(try have du:=z24 hN4 (.tail _ (.tail _ (.head _))));(try have eh:=fun cs E=>z24 (hN4.alloc cs E) (.tail _ (.head _)));(try have et:=fun cs E=>z24 (hN4.alloc cs E) (.tail _ (.tail _ (.head _))));(try have fh:=fun cs E cs' E'=>z24 ((hN4.alloc cs E).alloc cs' E') (.tail _ (.tail _ (.head _))));have HN4:=Go.Lib.hid (And.intro hm (And.intro hu (And.intro hS4 hN4)));clear hm hu hS4 hN4)
       | (go_at_call 12;refine (hbl _ _ ((((y0.new' (p:=wr.heap.size) rfl _ _).new' (p:=wr.heap.size+1) (zeh _ _) _ _).new' (p:=wr.heap.size+1+1) ((congrArg (·+1) (zeh _ _)).trans (zeh _ _)) _ _).drew)).mono ?_;rintro _ w2 ⟨ad,m,cap,S4,hm,rfl,hu,hS4,hN4⟩;(try have dh:=z24 hN4 (.head _));(try have dt:=z24 hN4 (.tail _ (.head _)));(try have du:=z24 hN4 (.tail _ (.tail _ (.head _))));(try have eh:=fun cs E=>z24 (hN4.alloc cs E) (.tail _ (.head _)));(try have et:=fun cs E=>z24 (hN4.alloc cs E) (.tail _ (.tail _ (.head _))));(try have fh:=fun cs E cs' E'=>z24 ((hN4.alloc cs E).alloc cs' E') (.tail _ (.tail _ (.head _))));have HN4:=Go.Lib.hid (And.intro hm (And.intro hu (And.intro hS4 hN4)));clear hm hu hS4 hN4))
     all_goals (
      go_wp2
      go_meet
      go_light
      obtain⟨hm,hu,hS4,hN4⟩:=HN4.out;have hsz:=HSZ.out;have hlt4:=hN4.lt;simp only[List.forall_mem_cons,List.forall_mem_nil,List.not_mem_nil,false_implies,implies_true,and_true] at hlt4
      first
       | refine z183 (HSS.out.trans hS4) hm hu (by omega) ?_
       | refine z1gv (HSS.out.trans hS4) hm hu (by omega) ?_
       | refine z185 (HSS.out.trans hS4) hm hu (by omega) ?_
       | refine z184 (HSS.out.trans hS4) hm hu (by omega) ?_)
     all_goals first
      | exact HN4.out.2.2.2.swap (by intro p hp;simp only[List.mem_cons,List.not_mem_nil,or_false] at hp ⊢;rcases hp with rfl|rfl|rfl|rfl<;>simp)
      | exact (HN4.out.2.2.2.new' (p:=w2.heap.size) rfl _ _).swap (by intro p hp;simp only[List.mem_cons,List.not_mem_nil,or_false] at hp ⊢;rcases hp with rfl|rfl|rfl|rfl<;>simp)
      | exact ((HN4.out.2.2.2.new' (p:=w2.heap.size) rfl _ _).new' (p:=w2.heap.size+1) (zeh _ _) _ _).swap (by intro p hp;simp only[List.mem_cons,List.not_mem_nil,or_false] at hp ⊢;rcases hp with rfl|rfl|rfl|rfl<;>simp)
      | exact (((HN4.out.2.2.2.new' (p:=w2.heap.size) rfl _ _).new' (p:=w2.heap.size+1) (zeh _ _) _ _).new' (p:=w2.heap.size+1+1) ((congrArg (·+1) (zeh _ _)).trans (zeh _ _)) _ _).swap (by intro p hp;simp only[List.mem_cons,List.not_mem_nil,or_false] at hp ⊢;rcases hp with rfl|rfl|rfl|rfl<;>simp)
    case rest =>
     obtain⟨S4,ad,m,cap,bd,bf,bn,rfl,hS4,hm,hu,n1,n2,n3,n4,n5,n6,hN4⟩:=hcut;have d0:=z24 hN4 (.head _);have hf:=hN4.free (p:=bf) (i:=j) (.tail _ (.head _));have hc:=hN4.cell (p:=bf) (i:=j) (v:=.bool false) (.tail _ (.head _)) (zke (by omega));have HN4:=Go.Lib.hid (And.intro hm (And.intro hu (And.intro hS4 hN4)));clear hm hu hS4 hN4
     go_upto_region 11 with (fail)
     obtain⟨hm,hu,hS4,hN4⟩:=HN4.out;have hN5:=(hN4.swap (L':=[(bf,madeCells #[.bool false] (j+2),4),(bd,#[.int .i64 0,.slice (some ⟨bf,0,none⟩) (j+2) (j+2),.slice ad m cap,.slice (some ⟨bn,0,none⟩) (j+2) (j+2)],27),(bn,madeCells #[.slice none 0 0] (j+2),24),(w.heap.size,#[.int .i64 0,.slice none 0 0,.slice none 0 0,.slice none 0 0],27)]) (by intro p hp;simp only[List.mem_cons,List.not_mem_nil,or_false] at hp ⊢;rcases hp with rfl|rfl|rfl|rfl<;>simp)).set (by
      intro q hq;simp only[List.mem_cons,List.not_mem_nil,or_false] at hq;rcases hq with rfl|rfl|rfl
      . exact n1
      . exact Ne.symm n3
      . exact n5) j (.bool true)
     have d1:=z24 hN5 (.tail _ (.head _));have hbc:=z1b8 N ((hg.mono hS4)) hN5 hu hcc;have HM:=Go.Lib.hid (And.intro hm (And.intro hu hS4));clear hm hu hS4 hN4 hN5 d0 hf hc
     go_wp2_with (first|(go_at_call 13;refine hbc.mono ?_;rintro _ w3 ⟨S5,rfl,hS5,hN6⟩;have d2:=z24 hN6 (.tail _ (.head _));have HN6:=Go.Lib.hid (And.intro hS5 hN6);clear hS5 hN6))
     obtain⟨hS5,hN6⟩:=HN6.out;have hlt:=hN6.lt;simp only[List.forall_mem_cons,List.forall_mem_nil,List.not_mem_nil,false_implies,implies_true,and_true] at hlt;have hW0:WSt w S S5 [(bd,#[.int .i64 0,.slice (some ⟨bf,0,none⟩) (j+2) (j+2),.slice ad m cap,.slice (some ⟨bn,0,none⟩) (j+2) (j+2)],27),(bf,(madeCells #[.bool false] (j+2)).setIfInBounds j (.bool true),4),(w.heap.size,#[.int .i64 0,.slice none 0 0,.slice none 0 0,.slice none 0 0],27)] bn (j+2) c w3.heap.size 24 3 0 (fun _ _=>(j:Int)+1) w3:=by
      refine⟨hN6.swap (by intro p hp;simp only[List.mem_cons,List.not_mem_nil,or_false] at hp ⊢;rcases hp with rfl|rfl|rfl<;>simp),⟨_,(hN6.own _ (.tail _ (.tail _ (.head _)))).2.2,zjd,fun i hi=>zke hi⟩,fun a ha=>absurd ha (Nat.not_lt_zero _),rfl,by omega,(hN6.own _ (.tail _ (.tail _ (.head _)))).2.1,(hN6.own _ (.tail _ (.tail _ (.head _)))).1,fun q hq=>?_,fun q hq=>?_,fun a ha=>z11p hN6 ha⟩
      . simp only[List.mem_cons,List.not_mem_nil,or_false] at hq;rcases hq with rfl|rfl|rfl
        . exact n2
        . exact n3
        . exact n6
      . simp only[List.mem_cons,List.not_mem_nil,or_false] at hq;rcases hq with rfl|rfl|rfl
        . exact hlt.2.1
        . exact hlt.1
        . exact hlt.2.2.2
     have HM5:=Go.Lib.hid (And.intro HM.out (And.intro hS5 hlt));clear hS5 hN6 hlt d2;have HW0:=Go.Lib.hid hW0;obtain⟨R0,hR0⟩:∃ R0,R0=w3.heap.size:=⟨_,rfl⟩
     rw[<- hR0] at hW0;have HR0:=Go.Lib.hid hR0;have HW0:=Go.Lib.hid hW0;clear hW0 hR0
     go_loopg [60] (j+2) (fun g i wr=>∃ k:Nat,k<=j+2/\g=j+2 - k/\i=.int .i64 k/\WSt w S S5 [(bd,#[.int .i64 0,.slice (some ⟨bf,0,none⟩) (j+2) (j+2),.slice ad m cap,.slice (some ⟨bn,0,none⟩) (j+2) (j+2)],27),(bf,(madeCells #[.bool false] (j+2)).setIfInBounds j (.bool true),4),(w.heap.size,#[.int .i64 0,.slice none 0 0,.slice none 0 0,.slice none 0 0],27)] bn (j+2) c R0 24 3 k (fun _ _=>(j:Int)+1) wr)
     case atStart=>exact⟨0,Nat.zero_le _,rfl,rfl,HW0.out⟩
     case round =>
      obtain⟨k,hk,rfl,rfl,hW⟩:=hrel;by_cases hkn:k<j+2
      . have hkz:(k:Int)<(j:Int)+2:=by omega
        have hk0:(0:Int)<=k:=by omega
        have hmk:=fun W:World=>run_make_row' (P:=Go.Proofs.Tryd.prog) 24 3 (.int .i64 0) 8 Go.Proofs.Tryd.underlying24 zzg rfl .i64 .i64 c (by omega) (by omega) W
        have d3:=z24 hW.st (.head _);have d4:∀ o,(wr.alloc o).cell? ⟨bd,3,none⟩=some (.slice (some ⟨bn,0,none⟩) (j+2) (j+2)):=fun o=>by
         have h:RowAt wr bd [.int .i64 0,.slice (some ⟨bf,0,none⟩) (j+2) (j+2),.slice ad m cap,.slice (some ⟨bn,0,none⟩) (j+2) (j+2)] 27:=(hW.st.own _ (.head _)).2.2;exact (h.alloc o).cell rfl
        have d6:∀ o,(wr.alloc o).frozen? ⟨bn,k,none⟩=false:=fun o=>(hW.top.alloc o).frozen k
        have d7:∀ o,(wr.alloc o).cell? ⟨bn,k,none⟩=some (.slice none 0 0):=fun o=>by
         have:=(hW.top.alloc o).cell hkn;rw[if_neg (Nat.lt_irrefl _)] at this;exact this
        have d8:=d3.1.2.2.2.1;have d9:∀ o v,((wr.alloc o).setCell ⟨bn,k,none⟩ v).cell? ⟨bd,3,none⟩=some (.slice (some ⟨bn,0,none⟩) (j+2) (j+2)):=fun o v=>by
         have h:RowAt wr bd [.int .i64 0,.slice (some ⟨bf,0,none⟩) (j+2) (j+2),.slice ad m cap,.slice (some ⟨bn,0,none⟩) (j+2) (j+2)] 27:=(hW.st.own _ (.head _)).2.2;exact ((h.alloc o).set_other (Ne.symm n2) k v).cell rfl
        have HW:=Go.Lib.hid hW;clear hW d3
        go_wp2
        go_region_held3 (fun w'=>World.cell? w' ⟨bd,3,none⟩=some (.slice (some ⟨bn,0,none⟩) (j+2) (j+2))) (first|exact d8|exact d4 _|exact d9 _ _|assumption) (fail)
        go_wp2
        have hI0:=HW.out.make.drew;have HI0:=Go.Lib.hid hI0;clear hI0 d4 d6 d7 d8 d9 hmk
        go_loopg [70] c (fun g i wi=>∃ q:Nat,q<=c/\g=c - q/\i=.int .i64 q/\WSt w S S5 [(bd,#[.int .i64 0,.slice (some ⟨bf,0,none⟩) (j+2) (j+2),.slice ad m cap,.slice (some ⟨bn,0,none⟩) (j+2) (j+2)],27),(bf,(madeCells #[.bool false] (j+2)).setIfInBounds j (.bool true),4),(w.heap.size,#[.int .i64 0,.slice none 0 0,.slice none 0 0,.slice none 0 0],27)] bn (j+2) c R0 24 3 (k+1) (fun a b=>if a<k then (j:Int)+1 else if b<q then (j:Int)+1 else 0) wi)
        case atStart=>exact⟨0,Nat.zero_le _,rfl,rfl,HI0.out.congr (fun a ha b hb=>by simp)⟩
        case round =>
         obtain⟨q,hq,rfl,rfl,hI⟩:=hrel;clear HI0 HW;by_cases hqc:q<c
         . have hqz:(q:Int)<(c:Int):=by omega
           have hq0:(0:Int)<=q:=by omega
           have e3:=(z24 hI.st (.head _)).1.2.2.2.1;have e4:=hI.top.cell hkn;rw[if_pos (Nat.lt_succ_self k)] at e4;have e5:=(hI.rows k (Nat.lt_succ_self k)).cell hqc;have e6:=(hI.rows k (Nat.lt_succ_self k)).frozen q;have HI:=Go.Lib.hid hI;clear hI
           go_wp2
           go_roundg (c - (q+1))
           case measure=>go_light;omega
           case rel=>go_light;exact⟨q+1,by omega,rfl,by simp,(HI.out.put (Nat.lt_succ_self k) q _).congr (fun a ha b hb=>by split<;>split<;>(try split)<;>(try split)<;>first|rfl|omega)⟩
         . obtain rfl:q=c:=by omega
           have hqz:¬ ((q:Int)<(q:Int)):=by omega
           have HI:=Go.Lib.hid hI;clear hI
           go_wp2
           go_roundg (j+2 - (k+1))
           case measure=>go_light;omega
           case rel=>go_light;exact⟨k+1,by omega,rfl,by simp,HI.out.congr (fun a ha b hb=>by split<;>(try split)<;>first|rfl|omega)⟩
      . obtain rfl:k=j+2:=by omega
        have hkz:¬ ((j:Int)+2<(j:Int)+2):=by omega
        have HW:=Go.Lib.hid hW;clear hW
        go_wp2_with (fail)
        go_loopg [85] j (fun g i wq=>∃ q:Nat,q<=j/\g=j - q/\i=.int .i64 q/\WSt w S S5 [(bd,#[.int .i64 0,.slice (some ⟨bf,0,none⟩) (j+2) (j+2),.slice ad m cap,.slice (some ⟨bn,0,none⟩) (j+2) (j+2)],27),(bf,(madeCells #[.bool false] (j+2)).setIfInBounds j (.bool true),4),(w.heap.size,#[.int .i64 0,.slice none 0 0,.slice none 0 0,.slice none 0 0],27)] bn (j+2) c R0 24 3 (j+2) (fun a b=>if a<q/\b=zlv bl s a then (a:Int)+1 else (j:Int)+1) wq)
        case atStart=>exact⟨0,Nat.zero_le _,rfl,rfl,HW.out.congr (fun a ha b hb=>by simp)⟩
        case round =>
         obtain⟨q,hq,rfl,rfl,hQ⟩:=hrel;clear HW;by_cases hqj:q<j
         . have hqz:(q:Int)<(j:Int):=by omega
           have hq0:(0:Int)<=q:=by omega
           have hall:=HALL.out q hqj;obtain⟨hm,hu,hS4⟩:=HM5.out.1;have hu5:VR S5 (.sl (.int .i64)) bl (.slice ad m cap):=hu.mono HM5.out.2.1;obtain⟨ad',cap',e,hcap,hor⟩:=hu5.sl_inv;cases e;obtain⟨b,hb⟩:∃ b,b=s.getD q 0:=⟨_,rfl⟩
           rw[<- hb] at hall;rcases hor with rfl|⟨bb,off,c1,rfl,hl,ha⟩
           . exact absurd hall.1 (Nat.not_lt_zero _)
           have h1:q<(⟨⟨s⟩⟩:ByteArray).size:=by rw[zb1];omega
           have hget:(⟨⟨s⟩⟩:ByteArray)[q]=b:=by
            have h2:q<s.length:=by omega
            simp[hb,List.getD,h2,ByteArray.getElem_eq_getElem_data]
           obtain⟨x,hx⟩:∃ x,x=zlv bl s q:=⟨_,rfl⟩
           have hxv:bl.getD b.toNat 0=(x:Int):=by rw[hx,zlv,<- hb];omega
           have hxc:x<c:=by omega
           have hc1:=zpm ha;have e2:wr.cell? ⟨bb,off+b.toNat,none⟩=some (.int .i64 (x:Int)):=zol hl hQ.st.inw (by rw[hc1,<- hxv];simp[List.getD,hall.1]);have e3:=(z24 hQ.st (.head _)).1;have e4:=hQ.top.cell (i:=q) (by omega);rw[if_pos (show q<j+2 by omega)] at e4;have e5:=(hQ.rows q (by omega)).cell hxc;have e6:=(hQ.rows q (by omega)).frozen x;have hP:=hQ.put (show q<j+2 by omega) x ((q:Int)+1);have p2:(wr.setCell ⟨R0+q,x,none⟩ (.int .i64 ((q:Int)+1))).cell? ⟨bb,off+b.toNat,none⟩=some (.int .i64 (x:Int)):=zol hl hP.st.inw (by rw[hc1,<- hxv];simp[List.getD,hall.1]);have p3:=(z24 hP.st (.head _)).1;have p4:=hP.top.cell (i:=q) (by omega);rw[if_pos (show q<j+2 by omega)] at p4;have y1:=And.intro e3.2.2.1 (And.intro e3.2.2.2.1 (And.intro e4 e2));have y2:=And.intro p3.2.2.1 (And.intro p3.2.2.2.1 (And.intro p4 p2));have hbl0:(0:Int)<=(b.toNat:Int):=by omega
           have hbl1:(b.toNat:Int)<(bl.length:Int):=by omega
           have hxz0:(0:Int)<=(x:Int):=by omega
           have hxz:(x:Int)<(c:Int):=by omega
           have hwq:IntKind.i64.wrap ((q:Int)+1)=(q:Int)+1:=z15h (by omega);have hq2:(q:Int)<(j:Int)+2:=by omega
           have HP:=Go.Lib.hid (And.intro hx hP);have HX:=Go.Lib.hid (And.intro hb hxv);clear hP hQ hx hb hxv hu hu5 hl ha hc1 hall hm p2 p3 p4
           go_wp2_with (fail)
           go_region_held3 (fun w'=>World.cell? w' ⟨bd,2,none⟩=some (.slice (some ⟨bb,off,none⟩) bl.length cap)/\World.cell? w' ⟨bd,3,none⟩=some (.slice (some ⟨bn,0,none⟩) (j+2) (j+2))/\World.cell? w' ⟨bn,q,none⟩=some (.slice (some ⟨R0+q,0,none⟩) c c)/\World.cell? w' ⟨bb,off+b.toNat,none⟩=some (.int .i64 (x:Int))) (first|exact y1|exact y2|assumption) (fail)
           all_goals go_wp2
           all_goals (
            go_roundg (j - (q+1))
            case measure=>go_light;omega
            case rel =>
             go_light
             refine⟨q+1,by omega,rfl,by simp,HP.out.2.drew.congr (fun a ha b hb=>?_)⟩;have hx:=HP.out.1;by_cases h1:a=q
             . subst h1;by_cases h2:b=x
               . rw[if_pos ⟨rfl,h2⟩,if_pos ⟨by omega,by omega⟩]
               . rw[if_neg (fun h=>h2 h.2),if_neg (fun h=>by omega),if_neg (fun h=>by omega)]
             . rw[if_neg (fun h=>h1 h.1)];by_cases h2:a<q/\b=zlv bl s a
               . rw[if_pos h2,if_pos ⟨by omega,h2.2⟩]
               . rw[if_neg h2,if_neg (fun h=>h2 ⟨by omega,h.2⟩)])
         . obtain rfl:q=j:=by omega
           have hqz:¬ ((q:Int)<(q:Int)):=by omega
           have f1:=(z24 hQ.st (.head _)).1;have f2:=z24 hQ.st (.tail _ (.tail _ (.head _)));have hE:=hQ.fin18 n4 n5 (.int .i64 0) (.slice (some ⟨bf,0,none⟩) (q+2) (q+2)) (.slice ad m cap) (.slice (some ⟨bn,0,none⟩) (q+2) (q+2));have HE:=Go.Lib.hid hE;have HQ:=Go.Lib.hid hQ;clear hQ hE
           go_wp2
           have hr:RowAt wr w.heap.size [.int .i64 0,.slice none 0 0,.slice none 0 0,.slice none 0 0] 27:=(HQ.out.st.own _ (.tail _ (.tail _ (.head _)))).2.2;exact bodyPost_ret (zx7 rfl rfl ((((hr.set 0 _).set 1 _).set 2 _).set 3 _)) rfl (HR.out _ _ _ _ _ _ _ _ HM5.out.1.1 (HM5.out.1.2.1.mono HM5.out.2.1) HE.out)
theorem z14t (S:Hp):VR S D18 ((0,([],([],([],()))))) (.agg #[.int .i64 0,.slice none 0 0,.slice none 0 0,.slice none 0 0]):=by
 have h:∀ t:T,Rd S (.sl t) ([]:List t.den) [.slice none 0 0]:=fun t=>⟨none,0,rfl,Nat.le_refl _,.inl rfl⟩
 exact⟨_,rfl,[_],_,rfl,rfl,[_],_,rfl,h _,[_],_,rfl,h _,[_],[],rfl,h _,rfl⟩
set_option maxHeartbeats 30000000 in
theorem z13r {w:World}{S:Hp}(hS:Lift.Sub S (hp w)){s:List UInt8}(hs:1024<s.length){R:Ending->World->Prop}
 (HR:Go.RowKit.Hid (∀ W L,NSt w S W S L->R (.returned (.tuple #[.agg #[.int .i64 0,.slice none 0 0,.slice none 0 0,.slice none 0 0],.int .i64 3])) W)) :
 Calls Go.Proofs.Tryd.prog 5 #[.string ⟨⟨s⟩⟩] w R:=by
 have hgt:decide ((1024:Int)<(s.length:Int))=true:=decide_eq_true (by omega);have hgz:(1024:Int)<(s.length:Int):=by omega
 have hN:=(NSt.start hS).alloc #[.int .i64 0,.slice none 0 0,.slice none 0 0,.slice none 0 0] 27;have HN4:=Go.Lib.hid hN;clear hN
 go_enter Go.Proofs.Tryd.func5,Go.Proofs.Tryd.ntmps5
 go_wp2
 exact bodyPost_ret (zx7 rfl rfl ((HN4.out.own _ (.head _)).2.2)) rfl (HR.out _ _ HN4.out)
theorem zt7 {w w':World}{S:Hp}{vals:List Value}{ob:Nat->List Nat}{z:z16 [(0,.v .str)]}{x:D18.den}{e:Int}{v:Value}(hS:Lift.Sub S (hp w))(hob:∀ i,ob i=[])(hwf:WF w (fun _=>False) w')
 (hv:VR (fun k=>if w.heap.size<=k then hp w' k else S k) D18 x v) :
 Lift.Ends w S (mkS [(0,.v .str)] 0 z) vals ob (z7r (.tup [D18,(.int .i64)]) 1 (x,(e,()))).1 (z7r (.tup [D18,(.int .i64)]) 1 (x,(e,()))).2 (.returned (.tuple #[v,.int .i64 e])) w':=by
 have hsome:∀ k o,S k=some o->k<w.heap.size:=fun k o hk=>(Array.getElem?_eq_some_iff.1 (show w.heap[k]?=some o from hS k o hk)).1
 have hSw:Lift.Sub S (hp w'):=fun k o hk=>by
  have h:=hwf.same k (hsome k o hk) (fun h=>h);simp only[hp];rw[h];exact hS k o hk
 refine⟨_,fun k=>if w.heap.size<=k then hp w' k else S k,[],ob,rfl,⟨hwf.size,fun k hk _=>hwf.same k hk (fun h=>h),hwf.tape,hwf.os,hwf.output⟩,fun k o hk=>?_,fun k o hk=>?_,fun k hk=>?_,⟨⟨rfl,_,rfl,.cons hv (.cons VR.int .nil)⟩,rfl⟩,(fun k hk=>by cases hk),.nil,?_,?_,?_,?_,fun i hi=>hi⟩
 . dsimp only;rw[if_neg (by have:=hsome k o hk;omega)];exact hk
 . dsimp only at hk;split at hk
   . exact hk
   . exact hSw k o hk
 . dsimp only at hk;split at hk
   . exact .inr (.inr (by assumption))
   . exact .inl hk
 . intro i z hz hbx
   match i with
   | 0=>simp[mkS,zcm,AS.mk] at hz;subst hz;cases hbx
   | i+1=>simp[mkS,zcm] at hz
 . intro i k hk;rw[hob i] at hk;cases hk
 . intro i j k hi;rw[hob i] at hi;cases hi
 . intro i;rw[hob i];exact .nil
theorem z10t {w0 W:World}{S0 S:Hp}{L:List (Nat×Array Value×Nat)}(h:NSt w0 S0 W S L)(hS:Lift.Sub S0 (hp w0)):Lift.Sub S (fun k=>if w0.heap.size<=k then hp W k else S0 k):=by
 intro k o hk;dsimp only;by_cases hlt:w0.heap.size<=k
 . rw[if_pos hlt];exact h.inw k o hk
 . rw[if_neg hlt];cases hs:S0 k with
   | none =>
     rcases h.new k (by rw[hk];simp) with h1|h1
     . exact absurd hs h1
     . omega
   | some o' =>
     have:=h.sub k o' hs;rw[hk] at this;exact this.symm
theorem zos {S:Hp}{t:T}{f:t.den->Value}(hf:∀ x,Rd S t x [f x]):∀ xs:List t.den,All (Rd S t) xs (xs.map f)
 | []=>rfl
 | x::xs=>⟨[f x],xs.map f,rfl,hf x,zos hf xs⟩
theorem z116 {S:Hp}{t:T}{b n:Nat}{cs:Array Value}{E:Nat}{fr:Nat×Nat}{xs:List t.den}(hS:S b=some (.cells cs E fr))(hn:xs.length=n)(ha:All (Rd S t) xs cs.toList):VR S (.sl t) xs (.slice (some ⟨b,0,none⟩) n n):=by
 subst hn;exact VR.of_one rfl ⟨_,xs.length,rfl,Nat.le_refl _,.inr ⟨b,0,cs.toList,rfl,⟨_,_,_,[],[],hS,by simp,rfl⟩,ha⟩⟩
theorem zr7 {S:Hp}{c:Nat}{R:Nat}{Z:Nat->Nat->Int}:∀ (l:List Nat),(∀ a∈l,VR S (.sl (.int .i64)) ((List.range c).map (Z a)) (.slice (some ⟨R+a,0,none⟩) c c)) →
 All (Rd S (.sl (.int .i64))) (l.map fun a=>(List.range c).map (Z a)) (l.map fun a=>Value.slice (some ⟨R+a,0,none⟩) c c)
 | [],_=>rfl
 | a::l,h=>⟨[_],l.map fun a=>Value.slice (some ⟨R+a,0,none⟩) c c,rfl,h a (.head _),zr7 l (fun b hb=>h b (.tail _ hb))⟩
theorem z16n {w W:World} {S S5:Hp} {bf bn j c R m cap:Nat} {ad:Option Addr} {bl:List Int} {Z:Nat->Nat->Int} (hS:Lift.Sub S (hp w)) (h:WEnd w S S5 bf bn j c R Z W) (hu:VR S5 (.sl (.int .i64)) bl (.slice ad m cap)) :
 VR (fun k=>if w.heap.size<=k then hp W k else S k) D18 (0,(List.replicate j false++[true,false],(bl,((List.range (j+2)).map (fun a=>(List.range c).map (Z a)),())))) (.agg #[.int .i64 0,.slice (some ⟨bf,0,none⟩) (j+2) (j+2),.slice ad m cap,.slice (some ⟨bn,0,none⟩) (j+2) (j+2)]):=by
 obtain⟨_,f2,f3⟩:=h.st.own _ (.head _);simp only at f2 f3;have hfin:VR (fun k=>if w.heap.size<=k then hp W k else S k) (.sl .bool) (List.replicate j false++[true,false]) (.slice (some ⟨bf,0,none⟩) (j+2) (j+2)):=by
  refine z116 (cs:=(madeCells #[.bool false] (j+2)).setIfInBounds j (.bool true)) ((if_pos f2).trans f3) (by simp) ?_;have e:((madeCells #[.bool false] (j+2)).setIfInBounds j (.bool true)).toList=(List.replicate j false++[true,false]).map Value.bool:=by
   apply List.ext_getElem?;intro i;rw[Array.getElem?_toList,Array.getElem?_setIfInBounds,zjd];rcases Nat.lt_trichotomy i j with hi|hi|hi
   . rw[if_neg (by omega),zke (by omega),List.map_append,List.getElem?_append_left (by simp;exact hi)];simp[hi]
   . subst hi;rw[if_pos rfl,if_pos (by omega),List.map_append,List.getElem?_append_right (by simp)];simp
   . rw[if_neg (by omega),List.map_append,List.getElem?_append_right (by simp;omega)];by_cases hi2:i=j+1
     . subst hi2;rw[zke (by omega)];simp
     . rw[Array.getElem?_eq_none (by rw[zjd];omega)];rw[List.getElem?_eq_none (by simp;omega)]
  rw[e];exact zos (t:=.bool) (f:=Value.bool) (fun x=>rfl) _
 have hrow:∀ a∈List.range (j+2),VR (fun k=>if w.heap.size<=k then hp W k else S k) (.sl (.int .i64)) ((List.range c).map (Z a)) (.slice (some ⟨R+a,0,none⟩) c c):=by
  intro a ha;have ha':a<j+2:=List.mem_range.1 ha;obtain⟨cs,h1,h2,h3⟩:=h.rows a ha';refine z116 (cs:=cs) ((if_pos (show w.heap.size<=R+a by have:=h.low.2;omega)).trans h1) (by simp) ?_;have e:cs.toList=((List.range c).map (Z a)).map (Value.int .i64):=by
   apply List.ext_getElem?;intro i;rw[Array.getElem?_toList];by_cases hi:i<c
   . rw[h3 i hi];simp[hi]
   . rw[Array.getElem?_eq_none (by omega),List.getElem?_eq_none (by simp;omega)]
  rw[e];exact zos (t:=.int .i64) (f:=Value.int .i64) (fun x=>rfl) _
 have hnext:VR (fun k=>if w.heap.size<=k then hp W k else S k) (.sl (.sl (.int .i64))) ((List.range (j+2)).map (fun a=>(List.range c).map (Z a))) (.slice (some ⟨bn,0,none⟩) (j+2) (j+2)):=by
  obtain⟨cs,h1,h2,h3⟩:=h.top;refine z116 (cs:=cs) ((if_pos h.low.1).trans h1) (by simp) ?_;have e:cs.toList=(List.range (j+2)).map fun a=>Value.slice (some ⟨R+a,0,none⟩) c c:=by
   apply List.ext_getElem?;intro i;rw[Array.getElem?_toList];by_cases hi:i<j+2
   . rw[h3 i hi];simp[hi]
   . rw[Array.getElem?_eq_none (by omega),List.getElem?_eq_none (by simp;omega)]
  rw[e];exact zr7 _ hrow
 have hb:=hu.mono (z10t h.st hS);have g1:Rd (fun k=>if w.heap.size<=k then hp W k else S k) (.sl .bool) _ [_]:=hfin;have g2:Rd (fun k=>if w.heap.size<=k then hp W k else S k) (.sl (.int .i64)) _ [_]:=hb;have g3:Rd (fun k=>if w.heap.size<=k then hp W k else S k) (.sl (.sl (.int .i64))) _ [_]:=hnext;exact⟨_,rfl,[_],_,rfl,rfl,[_],_,rfl,g1,[_],_,rfl,g2,[_],[],rfl,g3,rfl⟩
theorem zox (N:Nat):Contract Go.Proofs.Tryd.prog glob 5 (zh0 N):=by
 refine Contract.hand ⟨_,Go.Proofs.Tryd.func5,by kernel_rfl,by decide⟩ ?_;intro w S vals ob x y har hS hg hy;obtain⟨s,u⟩:=x;cases u;dsimp only at hy;obtain⟨⟨v0,hv0,hA0,ho0⟩,_⟩:=har.rel 0 _ rfl;have hvals:vals=[v0]:=by
  match vals,har.len,hv0 with
  | [a],_,h1=>simp at h1;rw[h1]
 subst hvals;have hob:∀ i,ob i=[]:=by
  intro i
  match i with
  | 0=>exact ho0
  | i+1=>exact har.out _ (by simp[mkS,zcm])
 obtain rfl:v0=.string ⟨⟨s⟩⟩:=hA0.str_inv;unfold zd2 at hy;cases hlen:decide (1024<s.length)<;>rw[hlen] at hy<;>simp only[cond] at hy
 . obtain⟨sets,h1,hy⟩:=Option.bind_eq_some_iff.1 hy;obtain⟨bl,h2,hy⟩:=Option.bind_eq_some_iff.1 hy;obtain⟨c,h3,hy⟩:=Option.bind_eq_some_iff.1 hy;cases hc:(decide (0<=c) && decide (c<=256) && (sets.all fun x=>decide (x.length=4)) && (s.all fun b=>decide (b.toNat<bl.length) && decide (0<=bl.getD b.toNat 0) && decide (bl.getD b.toNat 0<c)))<;>rw[hc] at hy<;>simp only[cond] at hy
   . cases hy
   . cases hy;simp only[Bool.and_eq_true,decide_eq_true_eq,List.all_eq_true] at hc;obtain⟨⟨⟨c0,c1⟩,h4⟩,c2⟩:=hc;refine z10l N (n:=s.length) (c:=c.toNat) hS hg rfl (by simpa using hlen) h1 h4 h2 (by rw[h3];congr 1;omega) (by omega) (fun i hi=>?_) (Go.Lib.hid (fun W S5 ad m cap bf bn R0 hm hu hE=>?_))
     . have:=c2 (s.getD i 0) (by rw[List.getD_eq_getElem?_getD,List.getElem?_eq_getElem hi];exact List.getElem_mem hi);omega
     . refine zt7 hS hob hE.st.wf ?_;have hv:=z16n hS hE hu;have e:z5c s bl c.toNat=(List.range (s.length+2)).map (fun a=>(List.range c.toNat).map (fun b=>if a<s.length/\b=zlv bl s a then (a:Int)+1 else (s.length:Int)+1)):=by
        unfold z5c;congr 1
        funext a
        congr 1
        funext b
        by_cases h1:a<s.length<;>by_cases h2:b=zlv bl s a<;>simp[h1,h2]
       rw[e];exact hv
 . cases hy;refine z13r hS (by simpa using hlen) (Go.Lib.hid (fun W L hN=>?_));exact zt7 hS hob hN.wf (z14t _)
end
end Go.Proofs.YtjbcpimnlgogiaaDoorLg
set_option linter.all false
set_option maxRecDepth 100000
namespace Go.Proofs.YtjbcpimnlgogiaaDoorLg
noncomputable section
open Go Go.Lift Go.Proofs.YtjbcpimnlgogiaaDoorPx
theorem z16q (N:Nat){s:List Int}(hs:SetOk s){b:Nat}(hb:b<256):z7q N s (b:Int)=some (z10m s b):=by
 have hi:b / 64<4:=by omega
 rw[z7q,z1nw hb,z1gu,Int.toNat_natCast,z1d (z3d hi),z1d (decide_eq_true (by rw[hs.length];exact hi)),z1d (decide_eq_true (by omega)),
  z1d (z3d hi),z1d (decide_eq_true (by rw[hs.length];exact hi))]
 rfl
def ofS:Nat->Nat->List Int->List Int
 | 0,_,s=>s
 | n+1,b,s=>ofS n (b+1) (z10m s b)
theorem z1gq:∀ (n b:Nat) {s:List Int},SetOk s->b+n<=256->SetOk (ofS n b s)
 | 0,_,_,hs,_=>hs
 | n+1,b,_,hs,h=>z1gq n (b+1) (zuk hs (by omega)) (by omega)
theorem z15u:∀ (n b:Nat) {s:List Int},SetOk s->b+n<=256->∀ {c:Nat},c<256->zc2 (ofS n b s) c=(zc2 s c || decide (b<=c/\c<b+n))
 | 0,b,s,hs,_,c,_=>by
   have:decide (b<=c/\c<b+0)=false:=decide_eq_false (by omega);rw[this,Bool.or_false];rfl
 | n+1,b,s,hs,h,c,hc=>by
   rw[ofS,z15u n (b+1) (zuk hs (by omega)) (by omega) hc,z14n hs (by omega) hc,Bool.or_assoc];congr 1;rw[<- Bool.decide_or];exact decide_eq_decide.2 (by omega)
theorem of_eq (N:Nat) {lo hi:Nat} (hl:lo<256) (hh:hi<256) (hN:257<N) :
 z22 N (lo:Int) (hi:Int)=some (ofS (hi+1 - lo) lo [0,0,0,0]):=by
 have wl:Go.IntKind.wrap .i64 (lo:Int)=(lo:Int):=z90 (by unfold I64;omega);have wh:Go.IntKind.wrap .i64 (hi:Int)=(hi:Int):=z90 (by unfold I64;omega);rw[z22,zkr,wl]
 let R:List Int×Int->Option (List Int):=fun v=>some (ofS (hi+1 - v.2.toNat) v.2.toNat v.1)
 have h:=zli (step:=fun (v:((List Int)×Int)) r=>zb9 N (hi:Int) [(0:Int),(0:Int),(0:Int),(0:Int)] v.1 v.2 (fun s b=>(r (s,b))) (fun s=>some s))
  (I:=fun v=>SetOk v.1/\0<=v.2/\v.2<=256) (m:=fun v=>256 - v.2.toNat) (R:=R)
  (by
   rintro⟨s,b⟩ r ⟨hs,h0,h1⟩ hr;obtain⟨b,rfl⟩:=Int.eq_ofNat_of_zero_le h0;simp only at hs h0 h1 ⊢;rw[zb9,wh];by_cases hb:b<=hi
   . have wb:Go.IntKind.wrap .u8 (b:Int)=(b:Int):=zky (by omega) (by omega);have wb1:Go.IntKind.wrap .i64 ((b:Int)+1)=((b+1:Nat):Int):=z5k (by omega);rw[z1d (decide_eq_true (by omega)),wb,z16q N hs (by omega)];simp only[Option.bind_some];rw[wb1,hr _ ⟨zuk hs (by omega),by simp only;omega,by simp only;omega⟩ (by simp only[Int.toNat_natCast];omega)];simp only[R,Int.toNat_natCast];have e:hi+1 - b=(hi+1 - (b+1))+1:=by omega
     rw[e,ofS]
   . rw[z6z (decide_eq_false (by omega))];simp only[R,Int.toNat_natCast];have e:hi+1 - b=0:=by omega
     rw[e,ofS]) N ([(0:Int),(0:Int),(0:Int),(0:Int)],(lo:Int)) ⟨zv2,by simp only;omega,by simp only;omega⟩ (by simp only[Int.toNat_natCast];omega)
 rw[h];simp only[R,Int.toNat_natCast]
def zho (b:Nat):List Int:=ofS 1 b [0,0,0,0]
theorem zsp {b:Nat}(hb:b<256):SetOk (zho b):=z1gq 1 b zv2 (by omega)
theorem zhn {b c:Nat}(hb:b<256)(hc:c<256):zc2 (zho b) c=decide (c=b):=by
 rw[zho,z15u 1 b zv2 (by omega) hc];have:zc2 [0,0,0,0] c=false:=by
  unfold zc2 bit;have:([0,0,0,0]:List Int).getD (c / 64) 0=0:=by
   have h4:c / 64<4:=by omega
   match c / 64,h4 with
   | 0,_=>rfl
   | 1,_=>rfl
   | 2,_=>rfl
   | 3,_=>rfl
  rw[this];simp
 rw[this,Bool.false_or];exact decide_eq_decide.2 (by omega)
theorem znl {N:Nat}(hN:257<N):∀ s:List UInt8,zhh N s=some (s.map fun b=>zho b.toNat)
 | []=>rfl
 | b::s=>by
   have hb:=UInt8.toNat_lt b;rw[zhh,of_eq N hb hb hN,show b.toNat+1 - b.toNat=1 by omega,Option.bind_some,znl hN s];rfl
def z2i (s:List UInt8):List (List Int):=s.map fun b=>zho b.toNat
theorem zzv (s:List UInt8){k i:Nat}(hk:k<256)(hi:i<256):ze9 (z2i s) k i=true ↔ ∀ b∈s,(k=b.toNat ↔ i=b.toNat):=by
 unfold ze9 z2i;rw[List.all_eq_true];constructor
 . intro h b hb;have:=h _ (List.mem_map_of_mem hb);rw[zhn (UInt8.toNat_lt b) hk,zhn (UInt8.toNat_lt b) hi,beq_iff_eq,decide_eq_decide] at this;exact this
 . intro h x hx;obtain⟨b,hb,rfl⟩:=List.mem_map.1 hx;rw[zhn (UInt8.toNat_lt b) hk,zhn (UInt8.toNat_lt b) hi,beq_iff_eq,decide_eq_decide];exact h b hb
def za6 (s:List UInt8):DfT:=(0,(List.replicate s.length false++[true,false],(ofB (z2i s),(z5c s (ofB (z2i s)) (z4g (ofB (z2i s))).toNat,()))))
theorem zhy (sets:List (List Int)):1<=z4g (ofB sets)/\z4g (ofB sets)<=256:=by
 have hr:=zgp sets;have h1:=z12n hr;obtain⟨g1,_,g3⟩:=zbc hr;have:=zum _ _ g3;have hc:z4g (ofB sets)=zm0 (-1) (ofB sets)+1:=by unfold z4g;rw[hr];rfl
 rw[zru] at this;omega
theorem z16p (k:Nat)(s:List UInt8)(hs:s.length<=128):zd2 (k+700) s=some (za6 s,(0,())):=by
 have hcl:=zhy (z2i s);unfold zd2;rw[z3s (by omega),cond_false,znl (by omega),Option.bind_some,show (s.map fun b=>zho b.toNat)=z2i s from rfl,show k+700=(k+400)+300 by omega,
  z1oa (k+400) (z2i s) (by simp[z2i];omega) (fun x hx=>by
   obtain⟨b,hb,rfl⟩:=List.mem_map.1 hx;exact zsp (UInt8.toNat_lt b)),Option.bind_some,zqz _ _ (by omega),Option.bind_some,z1d]
 . rfl
 . simp only[Bool.and_eq_true,decide_eq_true_eq,List.all_eq_true];refine⟨⟨⟨by omega,by omega⟩,fun x hx=>?_⟩,fun b hb=>?_⟩
   . obtain⟨b,hb,rfl⟩:=List.mem_map.1 hx;exact (zsp (UInt8.toNat_lt b)).length
   . have h1:=zni (zgp (z2i s)) (UInt8.toNat_lt b);have h2:=UInt8.toNat_lt b;have h3:=zru (z2i s);exact⟨⟨by omega,h1.1⟩,h1.2⟩
theorem zn9 (s:List UInt8)(bl:List Int)(c:Nat):(z5c s bl c).length=s.length+2:=by simp[z5c]
theorem zuu (s:List UInt8)(bl:List Int)(c:Nat){j:Nat}(hj:j<s.length+2):(z5c s bl c).getD j []=(List.range c).map fun i=>cond (decide (j<s.length) && decide (i=zlv bl s j)) ((j:Int)+1) ((s.length:Int)+1):=by
 simp[z5c,List.getD,hj]
theorem row_at (s:List UInt8)(bl:List Int)(c:Nat){j i:Nat}(hj:j<s.length+2)(hi:i<c):((z5c s bl c).getD j []).getD i 0=cond (decide (j<s.length) && decide (i=zlv bl s j)) ((j:Int)+1) ((s.length:Int)+1):=by
 rw[zuu s bl c hj];simp[List.getD,hi]
theorem zuj (s:List UInt8)(hs:s.length<=128):RtD (za6 s):=by
 have hcl:=zhy (z2i s);have hl:(za6 s).2.2.2.1.length=s.length+2:=zn9 ..;refine⟨by omega,by omega,by rw[hl];simp[za6],zgp _,fun q hq=>?_,by show (0:Int)<=0/\(0:Int)<_;omega⟩;rw[hl] at hq;have hrl:((za6 s).2.2.2.1.getD q []).length=(z4g (ofB (z2i s))).toNat:=by
  show ((z5c s (ofB (z2i s)) (z4g (ofB (z2i s))).toNat).getD q []).length=_;rw[zuu _ _ _ hq];simp
 refine⟨by rw[hrl];show _=z4g (ofB (z2i s));omega,fun i hi=>?_⟩;rw[hrl] at hi;rw[hl];show 0<=((z5c s (ofB (z2i s)) (z4g (ofB (z2i s))).toNat).getD q []).getD i 0/\((z5c s (ofB (z2i s)) (z4g (ofB (z2i s))).toNat).getD q []).getD i 0<_;rw[row_at _ _ _ hq hi];cases hc:(decide (q<s.length) && decide (i=zlv (ofB (z2i s)) s q))
 . simp only[cond_false];omega
 . simp only[cond_true];rw[Bool.and_eq_true,decide_eq_true_eq] at hc;omega
theorem z1an (s:List UInt8){j:Nat}(hj:j<s.length)(b:UInt8):z12s (za6 s) b.toNat=zlv (ofB (z2i s)) s j ↔ b=s.getD j 0:=by
 have h1:=zni (zgp (z2i s)) (UInt8.toNat_lt b);have h2:=zni (zgp (z2i s)) (UInt8.toNat_lt (s.getD j 0));have hm:s.getD j 0∈s:=by rw[List.getD_eq_getElem?_getD,List.getElem?_eq_getElem hj];exact List.getElem_mem hj
 have hal:=zzv s (UInt8.toNat_lt b) (UInt8.toNat_lt (s.getD j 0));have hiff:=z17z (z2i s) (UInt8.toNat_lt b) (UInt8.toNat_lt (s.getD j 0));have e1:z12s (za6 s) b.toNat=((ofB (z2i s)).getD b.toNat 0).toNat:=rfl;have e2:zlv (ofB (z2i s)) s j=((ofB (z2i s)).getD (s.getD j 0).toNat 0).toNat:=rfl;constructor
 . intro h;rw[e1,e2] at h;have h3:(ofB (z2i s)).getD b.toNat 0=(ofB (z2i s)).getD (s.getD j 0).toNat 0:=by omega
   rw[h3,beq_self_eq_true] at hiff;have:=(hal.1 hiff.symm _ hm).2 rfl;exact UInt8.toNat_inj.1 this
 . rintro rfl;rw[e1,e2]
theorem zsm (s:List UInt8)(hs:s.length<=128){j:Nat}(hj:j<s.length+2)(b:UInt8):zra (za6 s) j b.toNat=cond (decide (j<s.length) && decide (b=s.getD j 0)) (j+1) (s.length+1):=by
 have hcl:=zhy (z2i s);have hcls:=(zuj s hs).cls (UInt8.toNat_lt b);have hc:z12s (za6 s) b.toNat<(z4g (ofB (z2i s))).toNat:=by
  have:(za6 s).2.2.1=ofB (z2i s):=rfl;rw[this] at hcls;omega
 unfold zra;show (((z5c s (ofB (z2i s)) (z4g (ofB (z2i s))).toNat).getD j []).getD (z12s (za6 s) b.toNat) 0).toNat=_;rw[row_at _ _ _ hj hc];by_cases h:j<s.length
 . rw[z3p h,Bool.true_and,Bool.true_and,decide_eq_decide.2 (z1an s h b)];by_cases e:b=s.getD j 0
   . rw[z3p e];simp only[cond_true];omega
   . rw[z3s e];simp only[cond_false];omega
 . rw[z3s h];simp only[Bool.false_and,cond_false];omega
theorem zrh (s:List UInt8)(hs:s.length<=128):∀ t:List UInt8,z141 (za6 s) (s.length+1) t=s.length+1
 | []=>rfl
 | b::t=>by
   show z141 (za6 s) (zra (za6 s) (s.length+1) b.toNat) t=_;rw[zsm s hs (by omega),z3s (by omega),Bool.false_and,cond_false];exact zrh s hs t
theorem zxq (s:List UInt8) (hs:s.length<=128):∀ (t:List UInt8) (j:Nat),j<=s.length->(z141 (za6 s) j t=s.length ↔ t=s.drop j)
 | [],j,hj=>by
   show j=s.length ↔ _;constructor
   . intro h;rw[h,List.drop_length]
   . intro h;have:=congrArg List.length h;simp at this;omega
 | b :: t,j,hj=>by
   show z141 (za6 s) (zra (za6 s) j b.toNat) t=s.length ↔ _;rw[zsm s hs (by omega)];by_cases h:j<s.length
   . rw[z3p h,Bool.true_and,za1 s 0 j h];by_cases e:b=s.getD j 0
     . rw[z3p e,cond_true,zxq s hs t (j+1) (by omega),<- e];constructor
       . intro h;rw[h]
       . intro h;exact (List.cons.inj h).2
     . rw[z3s e,cond_false,zrh s hs];constructor
       . intro h;omega
       . intro h;exact absurd (List.cons.inj h).1 e
   . rw[z3s h,Bool.false_and,cond_false,zrh s hs,List.drop_eq_nil_of_le (by omega)];constructor
     . intro h;omega
     . intro h;cases h
theorem z14r (s:List UInt8){q:Nat}(hq:q<s.length+2):(za6 s).2.1.getD q false=decide (q=s.length):=by
 show (List.replicate s.length false++[true,false]).getD q false=_;rw[List.getD_eq_getElem?_getD];rcases Nat.lt_trichotomy q s.length with h|h|h
 . rw[List.getElem?_append_left (by simpa using h),z3s (by omega)];simp[h]
 . rw[List.getElem?_append_right (by simp;omega),z3p h,h];simp
 . rw[List.getElem?_append_right (by simp;omega),z3s (by omega),List.length_replicate,show q - s.length=1 by omega];rfl
theorem zsj (s t:List UInt8)(hs:s.length<=128):z1d8 (za6 s) t=decide (t=s):=by
 have hrt:=zuj s hs;have hl:(za6 s).2.2.2.1.length=s.length+2:=zn9 ..;unfold z1d8;rw[(zhq _).2 hrt,cond_true];have hr:=hrt.run t 0 (by omega);rw[hl] at hr;have hw:=zxq s hs t 0 (Nat.zero_le _);rw[List.drop_zero] at hw;show (za6 s).2.1.getD (z141 (za6 s) 0 t) false=_;rw[z14r s hr];exact decide_eq_decide.2 hw
theorem z16o (s:List UInt8)(hs:s.length<=128){N:Nat}(hN:302<=N)(hN2:N<=100000):SmD (za6 s) N:=by
 have hcl:=zhy (z2i s);have hl:(za6 s).2.2.2.1.length=s.length+2:=zn9 ..;refine⟨by omega,fun i=>?_,by show (ofB (z2i s)).length<=300;rw[zru];omega,hN,hN2⟩;by_cases hi:i<s.length+2
 . show ((z5c s (ofB (z2i s)) (z4g (ofB (z2i s))).toNat).getD i []).length<N;rw[zuu _ _ _ hi];simp;omega
 . rw[List.getD_eq_getElem?_getD,List.getElem?_eq_none (by omega)];show 0<N;omega
end
end Go.Proofs.YtjbcpimnlgogiaaDoorLg
