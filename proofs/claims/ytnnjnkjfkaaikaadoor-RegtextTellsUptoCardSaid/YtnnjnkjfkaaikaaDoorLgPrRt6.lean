import Derived.Test.YtnnjnkjfkaaikaaDoorLgPrRt4
import Derived.Test.YtnnjnkjfkaaikaaDoorLgPrRt5
import Derived.WalkKit
import Derived.Tactics
import Derived.Tactics2
import Derived.Defers
import Derived.Lib.Hide
import Derived.Below
import Derived.WalkSmall
import Derived.LoopN
import Derived.Deep.RegionHeld3
import Derived.Deep.Cut
import Derived.Deep.OwnRows
import Derived.Deep.LoopGhost
import Derived.Deep.Light
import Derived.Deep.CutRange
import Derived.KernelRfl
import Derived.Laws.Rows
import Derived.Test.YtnnjnkjfkaaikaaDoorLgPn
import Derived.Recover
import Derived.Orders
import Derived.Test.YtnnjnkjfkaaikaaDoorChecked
import Derived.Test.YtnnjnkjfkaaikaaDoorLgW
set_option linter.all false
set_option maxRecDepth 100000
namespace Go.Proofs.YtnnjnkjfkaaikaaDoorLg
noncomputable section
open Go Go.Lift Go.Proofs
theorem zgw (S:Hp):GlobOk zey S:=fun g d h=>by cases h
abbrev z11c:T:=.pair (.self 46) (.pair (.own (.byt 5)) .unit)
def zqo:Tree:=Tree.mk (0:Int) ([]:List Int) ([]:List Tree) (0:Int) (0:Int)
theorem zkc {S:Hp}{n:NodT.den}{cs:List Value}(h:Rd S NodT n cs):∃ a cap s0 s1 s2 s3,cs=[.int .i64 n.1,.int .u64 s0,.int .u64 s1,.int .u64 s2,.int .u64 s3,.slice a n.2.2.1.length cap,.int .i64 n.2.2.2.1,.int .i64 n.2.2.2.2.1] ∧
 VR S (.sl .nod) n.2.2.1 (.slice a n.2.2.1.length cap):=by
 obtain⟨c1,c2,e,h1,c3,c4,e2,⟨hl,h3⟩,c5,c6,e3,⟨a,cap,h5,hc,hk⟩,c7,c8,e4,h7,c9,c10,e5,h9,h10⟩:=h;have h1:c1=[.int .i64 n.1]:=h1;have h7:c7=[.int .i64 n.2.2.2.1]:=h7;have h9:c9=[.int .i64 n.2.2.2.2.1]:=h9;have h10:c10=[]:=h10;have h5:c5=[.slice a n.2.2.1.length cap]:=h5;have h3:=(zio _ _).1 h3;obtain⟨s0,s1,s2,s3,hs⟩:∃ s0 s1 s2 s3,n.2.1=[s0,s1,s2,s3]:=by
  have hl':n.2.1.length=4:=hl
  match h:n.2.1,hl' with
  | [a,b,c,d],_=>exact⟨a,b,c,d,rfl⟩
 refine⟨a,cap,s0,s1,s2,s3,?_,⟨a,cap,rfl,hc,hk⟩⟩;rw[e,h1,e2,h3,e3,h5,e4,h7,e5,h9,h10,hs];rfl
theorem zu6 {S:Hp}:∀ (ts:List Tree) (cs:List Value),All (RdN S) ts cs->∀ i,i<ts.length->∃ a cap s0 s1 s2 s3,
 Rd S NodT (unN (ts.getD i zqo)) [.int .i64 (unN (ts.getD i zqo)).1,.int .u64 s0,.int .u64 s1,.int .u64 s2,.int .u64 s3,.slice a (unN (ts.getD i zqo)).2.2.1.length cap,.int .i64 (unN (ts.getD i zqo)).2.2.2.1,.int .i64 (unN (ts.getD i zqo)).2.2.2.2.1] ∧
 cs[i*8]?=some (.int .i64 (unN (ts.getD i zqo)).1)/\cs[i*8+1]?=some (.int .u64 s0)/\cs[i*8+2]?=some (.int .u64 s1)/\cs[i*8+3]?=some (.int .u64 s2)/\cs[i*8+4]?=some (.int .u64 s3) ∧
 cs[i*8+5]?=some (.slice a (unN (ts.getD i zqo)).2.2.1.length cap)/\cs[i*8+6]?=some (.int .i64 (unN (ts.getD i zqo)).2.2.2.1)/\cs[i*8+7]?=some (.int .i64 (unN (ts.getD i zqo)).2.2.2.2.1)
 | [],_,_,i,hi=>by cases hi
 | t :: ts,cs,h,i,hi=>by
   obtain⟨c1,c2,rfl,h1,h2⟩:=h;have h1':=(zrq t c1).1 h1;obtain⟨a,cap,s0,s1,s2,s3,rfl,hk⟩:=zkc h1';cases i with
   | zero=>exact⟨a,cap,s0,s1,s2,s3,by simpa using h1',by simp,by simp,by simp,by simp,by simp,by simp,by simp,by simp⟩
   | succ i =>
     obtain⟨a',cap',r0,r1,r2,r3,g0,g1,g2,g3,g4,g5,g6,g7,g8⟩:=zu6 ts c2 h2 i (by simpa using hi);have sh:∀ k,([Value.int .i64 (unN t).1,.int .u64 s0,.int .u64 s1,.int .u64 s2,.int .u64 s3,.slice a (unN t).2.2.1.length cap,.int .i64 (unN t).2.2.2.1,.int .i64 (unN t).2.2.2.2.1]++c2)[(i+1)*8+k]?=c2[i*8+k]?:=fun k=>by
      rw[List.getElem?_append_right (by simp;omega)];congr 1;simp;omega
     refine⟨a',cap',r0,r1,r2,r3,by simpa using g0,?_,?_,?_,?_,?_,?_,?_,?_⟩
     . rw[show (i+1)*8=(i+1)*8+0 by omega,sh 0];simpa using g1
     all_goals (rw[sh];simpa using (by assumption))
theorem z10e {S:Hp} {ts:List Tree} {a:Option Addr} {cap:Nat} (h:VR S (.sl .nod) ts (.slice a ts.length cap)) (hn:0<ts.length):∃ b off,a=some ⟨b,off,none⟩/\∀ i,i<ts.length->∃ a cap s0 s1 s2 s3,
 VR S NodT (unN (ts.getD i zqo)) (.agg #[.int .i64 (unN (ts.getD i zqo)).1,.int .u64 s0,.int .u64 s1,.int .u64 s2,.int .u64 s3,.slice a (unN (ts.getD i zqo)).2.2.1.length cap,.int .i64 (unN (ts.getD i zqo)).2.2.2.1,.int .i64 (unN (ts.getD i zqo)).2.2.2.2.1]) ∧
 ∀ w:World,Lift.Sub S (hp w)->w.cell? ⟨b,off+i*8,none⟩=some (.int .i64 (unN (ts.getD i zqo)).1)/\w.cell? ⟨b,off+i*8+1,none⟩=some (.int .u64 s0)/\w.cell? ⟨b,off+i*8+2,none⟩=some (.int .u64 s1)/\w.cell? ⟨b,off+i*8+3,none⟩=some (.int .u64 s2)/\w.cell? ⟨b,off+i*8+4,none⟩=some (.int .u64 s3) ∧
   w.cell? ⟨b,off+i*8+5,none⟩=some (.slice a (unN (ts.getD i zqo)).2.2.1.length cap)/\w.cell? ⟨b,off+i*8+6,none⟩=some (.int .i64 (unN (ts.getD i zqo)).2.2.2.1)/\w.cell? ⟨b,off+i*8+7,none⟩=some (.int .i64 (unN (ts.getD i zqo)).2.2.2.2.1):=by
 have h':Rd S (.sl .nod) ts [.slice a ts.length cap]:=h;obtain⟨a',cap',e,hcap,h1⟩:=h';cases e;rcases h1 with rfl|⟨b,off,c1,rfl,hl,ha⟩
 . cases hn
 . refine⟨b,off,rfl,fun i hi=>?_⟩;obtain⟨a',cap',s0,s1,s2,s3,g0,g1,g2,g3,g4,g5,g6,g7,g8⟩:=zu6 ts c1 ha i hi;refine⟨a',cap',s0,s1,s2,s3,⟨_,rfl,by simpa using g0⟩,fun w hw=>?_⟩;have at':∀ j u,c1[j]?=some u->w.cell? ⟨b,off+j,none⟩=some u:=fun j u hu=>by
    obtain⟨all,E,fr,c0,c2,q1,q2,q3⟩:=hl;have q4:=hw _ _ q1;have hb:w.heap[b]?=some (.cells all E fr):=q4;have:all[off+j]?=some u:=by
     rw[<- Array.getElem?_toList,q2,List.getElem?_append_right (by omega),q3,show off+j - off=j by omega,List.getElem?_append_left (List.getElem?_eq_some_iff.1 hu).1];exact hu
    simp[World.cell?,hb,this]
   simp only[Nat.add_assoc];exact⟨at' _ _ g1,at' _ _ g2,at' _ _ g3,at' _ _ g4,at' _ _ g5,at' _ _ g6,at' _ _ g7,at' _ _ g8⟩
section
variable {w0 w:World} {S0:Hp} {ob0:List Nat} {bf:Nat} {t:T} {x:t.den} {L:List (Nat×Array Value×Nat)}
theorem BSt.data14 {glob:Nat->Option Dat}{P:Program}{f:FuncId}{g:List A->Res}(ct:Contract P glob f g)(hg:GlobOk glob S0)(h:BSt t w0 S0 ob0 bf w x L){args:List A}{vals:List Value}
 (hrel:∀ S,Lift.Sub S0 S->Lift.Sub S (hp w)->ArgsRel (hp w) S args vals (fun _=>[])) {y:(g args).X} (hy:(g args).val=some y) :
 Calls P f vals.toArray w fun e w'=>∃ v S' o',e=.returned v/\ARel (hp w') S' (fun _=>undef) ((g args).out y).1 v o'/\BSt t w0 S0 ob0 bf w' x L:=by
 have h':=h;obtain⟨S,o,h1,h2,h3,h4,h5,h6,h7,hL⟩:=h';refine ((ct.2 w S args vals _ (hrel S h2 h3) h3 (hg.mono h2) y hy)).mono ?_;rintro e w' ⟨v,S',q,ob',rfl,hwf,hSS,hSw,hnew,⟨hr,_⟩,_⟩;refine⟨v,S',q,rfl,hr,?_⟩;have hwf':WF w (fun _=>False) w':=⟨hwf.size,fun k hk _=>hwf.same k hk (by rintro⟨i,hi⟩;cases hi),hwf.tape,hwf.os,hwf.output⟩
 have hlt:∀ k∈o,k<w.heap.size:=fun k hk=>by
  obtain⟨ob,hob⟩:=h5.obj k hk;exact (Array.getElem?_eq_some_iff.1 hob.1).1
 have hnw:∀ k,k<w.heap.size->S' k≠none->S k≠none:=fun k hk hs=>by
  rcases hnew k hs with h|⟨i,hi⟩|h
  . exact h
  . cases hi
  . omega
 refine⟨S',o,h1.trans hwf' (fun _ h=>h.elim),h2.trans hSS,hSw,fun k hk=>?_,?_,h6,fun k hk=>⟨?_,(h7 k hk).2⟩,fun p hp=>?_⟩
 . rcases hnew k hk with h|⟨i,hi⟩|h
   . exact h4 k h
   . cases hi
   . exact .inr (.inr (Nat.le_trans h1.size h))
 . obtain⟨b,cs,E,fr,bs,rfl,e1,e2,e3,e4⟩:=h5;refine⟨b,cs,E,fr,bs,rfl,e1,?_,e3,e4.mono hSS _ _ _ _ (fun k hk=>hwf'.same k (hlt k (by simp[hk])) (fun h=>h))⟩;have:=hwf'.same b (hlt b (by simp)) (fun h=>h);simp only[hp] at e2 ⊢;rw[this];exact e2
 . cases hs:S' k with
   | none=>rfl
   | some q=>exact absurd (h7 k hk).1 (hnw k (hlt k hk) (by rw[hs];simp))
 . obtain⟨p1,p2,p3,p4⟩:=hL p hp;have hl:=(Array.getElem?_eq_some_iff.1 p4).1;refine⟨?_,p2,p3,?_⟩
   . cases hs:S' p.1 with
     | none=>rfl
     | some q=>exact absurd p1 (hnw _ hl (by rw[hs];simp))
   . rw[hwf'.same p.1 hl (fun h=>h)];exact p4
end
theorem zj7 {w:World}{S:Hp}{a:A}{v:Value}(h:ARel (hp w) S (fun _=>undef) a v [])(hr:a.refs=[]):ArgsRel (hp w) S [a] [v] (fun _=>[]):=by
 refine⟨rfl,fun i y hy=>?_,fun _ _=>rfl,(fun i j b hb=>by cases hb),fun _=>.nil,(fun i b hb=>by cases hb)⟩;cases i with
 | zero=>simp at hy;subst hy;exact⟨⟨v,rfl,h⟩,hr⟩
 | succ i=>simp at hy
theorem z10z {w:World}{S:Hp}{a b:A}{u v:Value}(h:ARel (hp w) S (fun _=>undef) a u [])(hr:a.refs=[])(h2:ARel (hp w) S (fun _=>undef) b v [])(hr2:b.refs=[]):ArgsRel (hp w) S [a,b] [u,v] (fun _=>[]):=by
 refine⟨rfl,fun i y hy=>?_,fun _ _=>rfl,(fun i j b hb=>by cases hb),fun _=>.nil,(fun i b hb=>by cases hb)⟩
 match i with
 | 0=>simp at hy;subst hy;exact⟨⟨u,rfl,h⟩,hr⟩
 | 1=>simp at hy;subst hy;exact⟨⟨v,rfl,h2⟩,hr2⟩
 | i+2=>simp at hy
theorem zpz {w:World}{S:Hp}:ArgsRel (hp w) S [] [] (fun _=>[]):=⟨rfl,(fun i y hy=>by simp at hy),fun _ _=>rfl,(fun i j b hb=>by cases hb),fun _=>.nil,(fun i b hb=>by cases hb)⟩
section
variable {w0 w:World} {S0:Hp} {ob0:List Nat} {bf:Nat} {L:List (Nat×Array Value×Nat)} {xs:List UInt8}
theorem z11t (N:Nat)(h:BSt z11c w0 S0 ob0 bf w ((),(z30 xs,())) L)(b:UInt8){c:Int}(hc:c=(b.toNat:Int))(hl:xs.length+1<=70368744177664) :
 Calls Go.Proofs.Tryd.prog 16 #[.pointer (some ⟨bf,0,none⟩),.int .u8 c] w fun q w'=>(∃ v,q=.returned v)/\BSt z11c w0 S0 ob0 bf w' ((),(z30 (xs++[b]),())) L:=by
 subst hc;have hy:z31 N ((),(z30 xs,())) ((b.toNat:Nat):Int)=some (Go.Value.nilIface,(((),(z30 (xs++[b]),())),())):=by
  rw[z31];rw[show decide _=true from decide_eq_true (by simp[z30];omega)];simp[z30]
 refine (BSt.boxed (zcq N) zgw h (args:=[.v (.int .u8) ((b.toNat:Nat):Int)]) (vals:=[.int .u8 ((b.toNat:Nat):Int)]) (fun S hS=>zj7 ⟨VR.int,rfl⟩ rfl) hy rfl).mono ?_;rintro e w' ⟨v,S',o',rfl,_,hb⟩;exact⟨⟨v,rfl⟩,hb⟩
theorem z11o (N:Nat)(h:BSt z11c w0 S0 ob0 bf w ((),(z30 xs,())) L)(s:List UInt8)(hl:xs.length+s.length<=70368744177664) :
 Calls Go.Proofs.Tryd.prog 19 #[.pointer (some ⟨bf,0,none⟩),.string ⟨⟨s⟩⟩] w fun q w'=>(∃ v,q=.returned v)/\BSt z11c w0 S0 ob0 bf w' ((),(z30 (xs++s),())) L:=by
 have hy:z1a N ((),(z30 xs,())) s=some (((((s.length:Nat):Int)),(Go.Value.nilIface,())),(((),(z30 (xs++s),())),())):=by
  unfold z1a;rw[show decide _=true from decide_eq_true (by simp[z30];omega)];simp[z30]
 refine (BSt.boxed (z4y N) zgw h (args:=[.v .str s]) (vals:=[.string ⟨⟨s⟩⟩]) (fun S hS=>zj7 ⟨VR.str,rfl⟩ rfl) hy rfl).mono ?_;rintro e w' ⟨v,S',o',rfl,_,hb⟩;exact⟨⟨v,rfl⟩,hb⟩
theorem z13a (N:Nat)(h:BSt z11c w0 S0 ob0 bf w ((),(z30 xs,())) L) :
 Calls Go.Proofs.Tryd.prog 17 #[.pointer (some ⟨bf,0,none⟩)] w fun q w'=>q=.returned (.int .i64 (xs.length:Int))/\BSt z11c w0 S0 ob0 bf w' ((),(z30 xs,())) L:=by
 have hy:z57 N ((),(z30 xs,()))=some ((xs.length:Int),(((),(z30 xs,())),())):=by
  rw[z57];simp[z30]
 refine (BSt.boxed (zhi N) zgw h (args:=[]) (vals:=[]) (fun S hS=>zpz) hy rfl).mono ?_;rintro e w' ⟨v,S',o',rfl,hr,hb⟩;exact⟨by rw[VR.int_inv hr.1],hb⟩
theorem z10q (N:Nat)(hg:GlobOk glob S0)(h:BSt z11c w0 S0 ob0 bf w ((),(z30 xs,())) L){n k:NodT.den}{u v:Value}(hu:VR S0 NodT n u)(hv:VR S0 NodT k v){r:Bool}(hy:z1u N n k=some r) :
 Calls Go.Proofs.Tryd.prog 18 #[u,v] w fun q w'=>q=.returned (.bool r)/\BSt z11c w0 S0 ob0 bf w' ((),(z30 xs,())) L:=by
 refine (BSt.data14 (zk1 N) hg h (args:=[.v NodT n,.v NodT k]) (vals:=[u,v]) (fun S h1 hS=>z10z ⟨hu.mono h1,rfl⟩ rfl ⟨hv.mono h1,rfl⟩ rfl) hy).mono ?_;rintro e w' ⟨v,S',o',rfl,hr,hb⟩;exact⟨by rw[VR.bool_inv hr.1],hb⟩
theorem z10o (N:Nat)(hg:GlobOk glob S0)(h:BSt z11c w0 S0 ob0 bf w ((),(z30 xs,())) L){n:NodT.den}{u:Value}(hu:VR S0 NodT n u){r:List UInt8}(hy:z6k N n=some r) :
 Calls Go.Proofs.Tryd.prog 20 #[u] w fun q w'=>q=.returned (.string ⟨⟨r⟩⟩)/\BSt z11c w0 S0 ob0 bf w' ((),(z30 xs,())) L:=by
 refine (BSt.data14 (zq6 N) hg h (args:=[.v NodT n]) (vals:=[u]) (fun S h1 hS=>zj7 ⟨hu.mono h1,rfl⟩ rfl) hy).mono ?_;rintro e w' ⟨v,S',o',rfl,hr,hb⟩;exact⟨by rw[VR.str_inv hr.1],hb⟩
end
abbrev zin:=List UInt8×(Int×Bool)
def z9i (o:List UInt8)(m:Nat):Bool:=decide (o.length+m<=70368744177664)
def zv9 (n:NodT.den)(i:Nat)(st:zin):Option zin:=if n.1=3/\0<i then (if z9i st.1 1=true then some (st.1++[124],st.2) else none) else some st
def z5g (N:Nat) (self:NodT.den->Bool->zin->Option zin) (n:NodT.den):Nat->List Tree->zin->Option (zin×Bool)
 | _,[],st=>some (st,true)
 | i,x::xs,st=>if st.2.2=false then some (st,false) else
   (zv9 n i st).bind fun s1=>(z1u N n (unN x)).bind fun e=>(self (unN x) e s1).bind fun s2=>z5g N self n (i+1) xs s2
def z1bx (enc:Bool)(st:zin):Option zin:=if enc=true then (if z9i st.1 1=true then some (st.1++[40],(Go.RowKit.wrap64 (st.2.1+1),st.2.2)) else none) else some st
def zmj (st:zin):zin:=(st.1,(st.2.1,st.2.2 && (decide (st.1.length<=256) && decide (st.2.1<=16))))
def z15p (N:Nat)(n:NodT.den)(enc:Bool)(st:zin):Option zin :=
 (z6k N n).bind fun e=>if z9i st.1 (e.length+1)=true then some (if enc=true then (st.1++e++[41],(Go.RowKit.wrap64 (st.2.1 - 1),st.2.2)) else (st.1++e,st.2)) else none
def zhl (N:Nat):Nat->NodT.den->Bool->zin->Option zin
 | 0=>fun _ _ _=>none
 | h + 1=>fun n enc st=>if decide (n.2.2.1.length<=9223372036854775807)=true then
     (z1bx enc st).bind fun s1=>(z5g N (zhl N h) n 0 n.2.2.1 (zmj s1)).bind fun q=>if q.2=false then some q.1 else z15p N n enc q.1
   else none
def z14x (B O F W:Nat):Value:=.func (.func 15) #[] #[.pointer (some ⟨B,0,none⟩),.pointer (some ⟨O,0,none⟩),.pointer (some ⟨F,0,none⟩),.pointer (some ⟨W,0,none⟩)]
def RSt (w0:World)(S0:Hp)(B O F W:Nat)(st:zin)(X:List (Nat×Array Value×Nat))(w:World):Prop :=
 BSt z11c w0 S0 [] B w ((),(z30 st.1,())) ((O,#[.int .i64 st.2.1],3)::(F,#[.bool st.2.2],4)::(W,#[z14x B O F W],47)::X)/\O≠F/\O≠W/\F≠W/\(∀ p∈X,p.1≠O/\p.1≠F/\p.1≠W)
section
variable {w0 w:World} {S0:Hp} {B O F W:Nat} {st:zin} {X:List (Nat×Array Value×Nat)}
theorem RSt.getO (h:RSt w0 S0 B O F W st X w):w.cell? ⟨O,0,none⟩=some (.int .i64 st.2.1)/\w.frozen? ⟨O,0,none⟩=false:=⟨h.1.cell (.head _) rfl,h.1.free (.head _)⟩
theorem RSt.getF (h:RSt w0 S0 B O F W st X w):w.cell? ⟨F,0,none⟩=some (.bool st.2.2)/\w.frozen? ⟨F,0,none⟩=false:=⟨h.1.cell (.tail _ (.head _)) rfl,h.1.free (.tail _ (.head _))⟩
theorem RSt.getW (h:RSt w0 S0 B O F W st X w):w.cell? ⟨W,0,none⟩=some (z14x B O F W):=h.1.cell (.tail _ (.tail _ (.head _))) rfl
theorem RSt.setO (h:RSt w0 S0 B O F W st X w)(k:Int):RSt w0 S0 B O F W (st.1,(k,st.2.2)) X (w.setCell ⟨O,0,none⟩ (.int .i64 k)):=by
 refine⟨h.1.setCell ?_ 0 _,h.2⟩;intro q hq;rcases List.mem_cons.1 hq with rfl|hq
 . exact fun e=>h.2.1 e.symm
 . rcases List.mem_cons.1 hq with rfl|hq
   . exact fun e=>h.2.2.1 e.symm
   . exact (h.2.2.2.2 q hq).1
theorem RSt.setF (h:RSt w0 S0 B O F W st X w)(f:Bool):RSt w0 S0 B O F W (st.1,(st.2.1,f)) X (w.setCell ⟨F,0,none⟩ (.bool f)):=by
 have h1:BSt z11c w0 S0 [] B w ((),(z30 st.1,())) ((F,#[.bool st.2.2],4)::(O,#[.int .i64 st.2.1],3)::(W,#[z14x B O F W],47)::X):=h.1.swap (fun p hp=>by
  simp only[List.mem_cons] at hp ⊢;rcases hp with h|h|h|h
  . exact .inr (.inl h)
  . exact .inl h
  . exact .inr (.inr (.inl h))
  . exact .inr (.inr (.inr h)))
 refine⟨(h1.setCell ?_ 0 (.bool f)).swap (fun p hp=>by
  simp only[List.mem_cons] at hp ⊢;rcases hp with h|h|h|h
  . exact .inr (.inl h)
  . exact .inl h
  . exact .inr (.inr (.inl h))
  . exact .inr (.inr (.inr h))),h.2⟩
 intro q hq;rcases List.mem_cons.1 hq with rfl|hq
 . exact fun e=>h.2.1 e
 . rcases List.mem_cons.1 hq with rfl|hq
   . exact fun e=>h.2.2.2.1 e.symm
   . exact (h.2.2.2.2 q hq).2.1
theorem RSt.drop (h:RSt w0 S0 B O F W st X w){Y:List (Nat×Array Value×Nat)}(hY:∀ p∈Y,p∈X):RSt w0 S0 B O F W st Y w:=by
 refine⟨h.1.swap (fun p hp=>?_),h.2.1,h.2.2.1,h.2.2.2.1,fun p hp=>h.2.2.2.2 p (hY p hp)⟩;simp only[List.mem_cons] at hp ⊢;rcases hp with h|h|h|h
 . exact .inl h
 . exact .inr (.inl h)
 . exact .inr (.inr (.inl h))
 . exact .inr (.inr (.inr (hY p h)))
theorem RSt.alloc (h:RSt w0 S0 B O F W st X w)(cs:Array Value)(E:Nat):RSt w0 S0 B O F W st ((w.heap.size,cs,E)::X) (w.alloc (.cells cs E)):=by
 have hl:=h.1.lt;have lO:=hl _ (.head _);have lF:=hl _ (.tail _ (.head _));have lW:=hl _ (.tail _ (.tail _ (.head _)));simp only at lO lF lW;refine⟨(h.1.alloc cs E).swap (fun p hp=>?_),h.2.1,h.2.2.1,h.2.2.2.1,fun p hp=>?_⟩
 . simp only[List.mem_cons] at hp ⊢;rcases hp with h|h|h|h|h
   . exact .inr (.inl h)
   . exact .inr (.inr (.inl h))
   . exact .inr (.inr (.inr (.inl h)))
   . exact .inl h
   . exact .inr (.inr (.inr (.inr h)))
 . rcases List.mem_cons.1 hp with rfl|hp
   . exact⟨by simp only;omega,by simp only;omega,by simp only;omega⟩
   . exact h.2.2.2.2 p hp
theorem RSt.drew (h:RSt w0 S0 B O F W st X w):RSt w0 S0 B O F W st X w.drew:=⟨h.1.drew,h.2⟩
theorem RSt.own (h:RSt w0 S0 B O F W st X w){p:Nat}{cs:Array Value}{E i:Nat}{v:Value}(hm:(p,cs,E)∈X)(hi:cs[i]?=some v):w.cell? ⟨p,i,none⟩=some v:=h.1.cell (.tail _ (.tail _ (.tail _ hm))) hi
theorem RSt.sub (h:RSt w0 S0 B O F W st X w):Lift.Sub S0 (hp w):=by
 obtain⟨⟨S,o,h1,h2,h3,_⟩,_⟩:=h;exact fun k q hk=>h3 k q (h2 k q hk)
theorem RSt.byte (N:Nat)(h:RSt w0 S0 B O F W st X w)(b:UInt8){c:Int}(hc:c=(b.toNat:Int))(hl:z9i st.1 1=true) :
 Calls Go.Proofs.Tryd.prog 16 #[.pointer (some ⟨B,0,none⟩),.int .u8 c] w fun q w'=>(∃ v,q=.returned v)/\RSt w0 S0 B O F W (st.1++[b],st.2) X w' :=
 (z11t N h.1 b hc (of_decide_eq_true hl)).mono fun q w' ⟨h1,h2⟩=>⟨h1,h2,h.2⟩
theorem RSt.text (N:Nat)(h:RSt w0 S0 B O F W st X w)(s:List UInt8)(hl:z9i st.1 (s.length+1)=true) :
 Calls Go.Proofs.Tryd.prog 19 #[.pointer (some ⟨B,0,none⟩),.string ⟨⟨s⟩⟩] w fun q w'=>(∃ v,q=.returned v)/\RSt w0 S0 B O F W (st.1++s,st.2) X w' :=
 (z11o N h.1 s (by have:=of_decide_eq_true hl;omega)).mono fun q w' ⟨h1,h2⟩=>⟨h1,h2,h.2⟩
theorem RSt.len (N:Nat)(h:RSt w0 S0 B O F W st X w) :
 Calls Go.Proofs.Tryd.prog 17 #[.pointer (some ⟨B,0,none⟩)] w fun q w'=>q=.returned (.int .i64 (st.1.length:Int))/\RSt w0 S0 B O F W st X w' :=
 (z13a N h.1).mono fun q w' ⟨h1,h2⟩=>⟨h1,h2,h.2⟩
theorem RSt.enc (N:Nat)(hg:GlobOk glob S0)(h:RSt w0 S0 B O F W st X w){n k:NodT.den}{u v:Value}(hu:VR S0 NodT n u)(hv:VR S0 NodT k v){r:Bool}(hy:z1u N n k=some r) :
 Calls Go.Proofs.Tryd.prog 18 #[u,v] w fun q w'=>q=.returned (.bool r)/\RSt w0 S0 B O F W st X w' :=
 (z10q N hg h.1 hu hv hy).mono fun q w' ⟨h1,h2⟩=>⟨h1,h2,h.2⟩
theorem RSt.end (N:Nat)(hg:GlobOk glob S0)(h:RSt w0 S0 B O F W st X w){n:NodT.den}{u:Value}(hu:VR S0 NodT n u){r:List UInt8}(hy:z6k N n=some r) :
 Calls Go.Proofs.Tryd.prog 20 #[u] w fun q w'=>q=.returned (.string ⟨⟨r⟩⟩)/\RSt w0 S0 B O F W st X w' :=
 (z10o N hg h.1 hu hy).mono fun q w' ⟨h1,h2⟩=>⟨h1,h2,h.2⟩
end
theorem zuf (N:Nat){self:NodT.den->Bool->zin->Option zin}{n:NodT.den}{i:Nat}{x:Tree}{xs:List Tree}{st:zin}{q:zin×Bool}(h:z5g N self n i (x::xs) st=some q) :
 (st.2.2=false/\q=(st,false))\/(st.2.2=true/\∃ s1 e s2,zv9 n i st=some s1/\z1u N n (unN x)=some e/\self (unN x) e s1=some s2/\z5g N self n (i+1) xs s2=some q):=by
 rw[z5g] at h;cases hf:st.2.2 with
 | false=>rw[if_pos hf] at h;exact .inl ⟨rfl,(Option.some.inj h).symm⟩
 | true =>
   rw[if_neg (by rw[hf];decide)] at h;obtain⟨s1,h1,h⟩:=Option.bind_eq_some_iff.1 h;obtain⟨e,h2,h⟩:=Option.bind_eq_some_iff.1 h;obtain⟨s2,h3,h⟩:=Option.bind_eq_some_iff.1 h;exact .inr ⟨rfl,s1,e,s2,h1,h2,h3,h⟩
theorem z1qn {xs:List Tree}{j:Nat}(h:j<xs.length):xs.drop j=xs.getD j zqo::xs.drop (j+1):=by
 rw[List.drop_eq_getElem_cons h,List.getD_eq_getElem?_getD,List.getElem?_eq_getElem h];rfl
theorem z1ej {j:Nat}(h:j<9223372036854775807):IntKind.i64.wrap ((j:Int)+1)=(j:Int)+1:=by
 have h1:((j:Int)+1+9223372036854775808) % 18446744073709551616=(j:Int)+1+9223372036854775808:=Int.emod_eq_of_lt (by omega) (by omega);simp only[IntKind.wrap,IntKind.bits,IntKind.signed]
 first|omega|(simp;omega)
theorem RSt.eight {w0 w:World}{S0:Hp}{B O F W:Nat}{st:zin}{X:List (Nat×Array Value×Nat)}(h:RSt w0 S0 B O F W st X w){p E:Nat}{v0 v1 v2 v3 v4 v5 v6 v7:Value}(hm:(p,#[v0,v1,v2,v3,v4,v5,v6,v7],E)∈X) :
 w.cell? ⟨p,0,none⟩=some v0/\w.cell? ⟨p,1,none⟩=some v1/\w.cell? ⟨p,2,none⟩=some v2/\w.cell? ⟨p,3,none⟩=some v3/\w.cell? ⟨p,4,none⟩=some v4/\w.cell? ⟨p,5,none⟩=some v5/\w.cell? ⟨p,6,none⟩=some v6/\w.cell? ⟨p,7,none⟩=some v7 :=
 ⟨h.own hm rfl,h.own hm rfl,h.own hm rfl,h.own hm rfl,h.own hm rfl,h.own hm rfl,h.own hm rfl,h.own hm rfl⟩
set_option maxHeartbeats 30000000 in
theorem zmt (N:Nat) {w0:World} {S0:Hp} {B O F W:Nat} (hg:GlobOk glob S0):∀ (hf:Nat) (n:NodT.den) (enc:Bool) (w:World) (nv:Value) (st st':zin) (X:List (Nat×Array Value×Nat)),VR S0 NodT n nv->RSt w0 S0 B O F W st X w->zhl N hf n enc st=some st' →
 Calls Go.Proofs.Tryd.prog 15 #[nv,.bool enc,.pointer (some ⟨B,0,none⟩),.pointer (some ⟨O,0,none⟩),.pointer (some ⟨F,0,none⟩),.pointer (some ⟨W,0,none⟩)] w fun q w'=>q=.returned (.tuple #[])/\RSt w0 S0 B O F W st' X w'
 | 0,n,enc,w,nv,st,st',X,hn,hst,hy=>by cases hy
 | hf+1, n,enc,w,nv,st,st',X,hn,hst,hy=>by
   have ih:=zmt N (w0:=w0) (S0:=S0) (B:=B) (O:=O) (F:=F) (W:=W) hg hf;rw[zhl] at hy;dsimp only at hy;by_cases hlen:n.2.2.1.length<=9223372036854775807
   case neg=>rw[if_neg (by simpa using hlen)] at hy;cases hy
   rw[if_pos (by simpa using hlen)] at hy;obtain⟨s1,hy1,hy⟩:=Option.bind_eq_some_iff.1 hy;obtain⟨q,hy2,hy⟩:=Option.bind_eq_some_iff.1 hy;have hn':∃ cs,nv=.agg cs/\Rd S0 NodT n cs.toList:=hn;obtain⟨cs,hnv,hrd⟩:=hn';obtain⟨a,cap,c0,c1,c2,c3,hcs,hkids⟩:=zkc hrd;have hcs':cs=#[.int .i64 n.1,.int .u64 c0,.int .u64 c1,.int .u64 c2,.int .u64 c3,.slice a n.2.2.1.length cap,.int .i64 n.2.2.2.1,.int .i64 n.2.2.2.2.1]:=by
    apply Array.toList_inj.1;rw[hcs]
   subst hcs';subst hnv
   suffices HX:∀ R:Ending->World->Prop,Go.RowKit.Hid (∀ w',RSt w0 S0 B O F W st' X w'->R (.returned (.tuple #[])) w')->Calls Go.Proofs.Tryd.prog 15 #[.agg #[.int .i64 n.1,.int .u64 c0,.int .u64 c1,.int .u64 c2,.int .u64 c3,.slice a n.2.2.1.length cap,.int .i64 n.2.2.2.1,.int .i64 n.2.2.2.2.1],.bool enc,.pointer (some ⟨B,0,none⟩),.pointer (some ⟨O,0,none⟩),.pointer (some ⟨F,0,none⟩),.pointer (some ⟨W,0,none⟩)] w R from HX _ (Go.Lib.hid (fun w' a=>⟨rfl,a⟩))
   intro R HR;have hal:=hst.alloc #[.int .i64 n.1,.int .u64 c0,.int .u64 c1,.int .u64 c2,.int .u64 c3,.slice a n.2.2.1.length cap,.int .i64 n.2.2.2.1,.int .i64 n.2.2.2.2.1] 27;have HA:=Go.Lib.hid hal;have HY1:=Go.Lib.hid hy1;have HY2:=Go.Lib.hid hy2;have HY:=Go.Lib.hid hy;have HK:=Go.Lib.hid hkids;have HN:=Go.Lib.hid hn;have IH:=Go.Lib.hid ih;have HG:=Go.Lib.hid hg;clear hy hy1 hy2 hal hst hkids hrd hcs hn ih hg;generalize hkl:n.2.2.1.length=kl at *;have HKL:=Go.Lib.hid hkl;clear hkl
   go_enter Go.Proofs.Tryd.func15,Go.Proofs.Tryd.ntmps15
   go_upto_if 10 with (fail)
   go_cut [] from 10 to 13 (fun wc=>RSt w0 S0 B O F W s1 ((w.heap.size,#[.int .i64 n.1,.int .u64 c0,.int .u64 c1,.int .u64 c2,.int .u64 c3,.slice a kl cap,.int .i64 n.2.2.2.1,.int .i64 n.2.2.2.2.1],27)::X) wc)
   case first =>
    have h1:=HY1.out;cases enc with
    | false =>
      rw[z1bx,if_neg (by decide)] at h1;obtain rfl:=Option.some.inj h1;clear h1
      go_wp2
      go_meet
      exact HA.out
    | true =>
      rw[z1bx,if_pos rfl] at h1;by_cases hroom:z9i st.1 1=true
      case neg=>rw[if_neg hroom] at h1;cases h1
      rw[if_pos hroom] at h1;obtain rfl:=Option.some.inj h1;have HB:=Go.Lib.hid (HA.out.byte N 40 (c:=40) rfl hroom);clear h1 hroom
      go_wp2_with (go_at_call 16;refine HB.out.mono ?_;rintro q1 w1 ⟨⟨v1,rfl⟩,hw1⟩;have hO1:w1.cell? ⟨O,0,none⟩=some (.int .i64 st.2.1):=hw1.getO.1;have hO2:=hw1.getO.2;have HW1:=Go.Lib.hid hw1;clear HB hw1)
      go_meet
      exact HW1.out.setO _
   case rest =>
   have HC:=Go.Lib.hid hcut;clear hcut HA HY1 hy
   go_upto_region 4 with (fail)
   go_cut [] from 14 to 22 (fun wd=>RSt w0 S0 B O F W (zmj s1) ((w.heap.size,#[.int .i64 n.1,.int .u64 c0,.int .u64 c1,.int .u64 c2,.int .u64 c3,.slice a kl cap,.int .i64 n.2.2.2.1,.int .i64 n.2.2.2.2.1],27)::X) wd)
   case first =>
    cases hb:s1.2.2 with
    | false =>
      have hF1:wc.cell? ⟨F,0,none⟩=some (.bool false):=by rw[<- hb];exact HC.out.getF.1
      have hF2:=HC.out.getF.2;have HFI:=Go.Lib.hid (show zmj s1=(s1.1,(s1.2.1,false)) by simp[zmj,hb]);clear hb
      go_wp2
      all_goals (
       go_meet
       rw[HFI.out];exact HC.out.setF _)
    | true =>
      have hF1:wc.cell? ⟨F,0,none⟩=some (.bool true):=by rw[<- hb];exact HC.out.getF.1
      have HFI:=Go.Lib.hid (show zmj s1=(s1.1,(s1.2.1,decide (s1.1.length<=256) && decide (s1.2.1<=16))) by simp[zmj,hb]);have HLN:=Go.Lib.hid (HC.out.len N);clear hb;by_cases hl2:(s1.1.length:Int)<=256
      all_goals go_wp2_with (go_at_call 17;refine HLN.out.mono ?_;rintro q1 w1 ⟨rfl,hw1⟩;have hO1:=hw1.getO.1;have hF3:=hw1.getF.1;have hF2:=hw1.getF.2;have HW1:=Go.Lib.hid hw1;clear HLN hw1)
      all_goals go_meet
      all_goals first
       | (rw[HFI.out,decide_eq_true (show s1.1.length<=256 by omega),Bool.true_and];exact HW1.out.setF _)
       | (rw[HFI.out,decide_eq_false (show ¬ s1.1.length<=256 by omega),Bool.false_and];exact HW1.out.setF _)
   case rest =>
   have HD:=Go.Lib.hid hcut;have hP5:=(hcut.own (.head _) (i:=5) rfl:wc.cell? ⟨w.heap.size,5,none⟩=some (Value.slice a kl cap))
   have hkk:VR S0 (.sl .nod) n.2.2.1 (.slice a n.2.2.1.length cap):=by rw[HKL.out];exact HK.out
   have HKK:=Go.Lib.hid hkk;clear hcut HC hkk
   go_wp2_with (fail)
   go_loopg [26] kl (fun g i wr=>∃ j:Nat,∃ s:zin,j<=kl/\g=kl - j/\i=.int .i64 j/\RSt w0 S0 B O F W s ((w.heap.size,#[.int .i64 n.1,.int .u64 c0,.int .u64 c1,.int .u64 c2,.int .u64 c3,.slice a kl cap,.int .i64 n.2.2.2.1,.int .i64 n.2.2.2.2.1],27)::X) wr/\z5g N (zhl N hf) n j (n.2.2.1.drop j) s=some q)
   case atStart=>exact⟨0,zmj s1,Nat.zero_le _,rfl,rfl,HD.out,HY2.out⟩
   case round =>
    obtain⟨j,s,hj,rfl,rfl,hr,hkf⟩:=hrel;clear HY2 HD;by_cases hjl:j<kl
    . have hjz:(j:Int)<(kl:Int):=by omega
      have hj0:(0:Int)<=(j:Int):=by omega
      have hjl':j<n.2.2.1.length:=by rw[HKL.out];exact hjl
      obtain⟨b,off,rfl,hall⟩:=z10e HKK.out (by omega);obtain⟨a',cap',d0,d1,d2,d3,hkv,hkc⟩:=hall j hjl';have hc8:=hkc wr hr.sub;rw[z1qn hjl'] at hkf;have HKF:=Go.Lib.hid (zuf N hkf);have HKV:=Go.Lib.hid hkv;generalize unN (n.2.2.1.getD j zqo)=kd at *;have hra:=hr.alloc #[.int .i64 kd.1,.int .u64 d0,.int .u64 d1,.int .u64 d2,.int .u64 d3,.slice a' kd.2.2.1.length cap',.int .i64 kd.2.2.2.1,.int .i64 kd.2.2.2.2.1] 27;have HRA:=Go.Lib.hid hra;rcases HKF.out with⟨hf1,hq1⟩|⟨hf1,s2,e,s3,hb1,he,hs3,hkr⟩
      . have hFa:(wr.alloc (.cells #[.int .i64 kd.1,.int .u64 d0,.int .u64 d1,.int .u64 d2,.int .u64 d3,.slice a' kd.2.2.1.length cap',.int .i64 kd.2.2.2.1,.int .i64 kd.2.2.2.2.1] 27)).cell? ⟨F,0,none⟩=some (.bool false):=by rw[<- hf1];exact hra.getF.1
        have hst':s=st':=by
         have:=HY.out;rw[hq1,if_pos rfl] at this;exact Option.some.inj this
        have HST:=Go.Lib.hid hst';clear hf1 hq1 hst' hkf hkc hall hr hkv hjl' hra HKF
        go_wp2
        rw[<- HST.out] at HR;exact bodyPost_ret (results_none rfl _ _ _) rfl (HR.out _ (HRA.out.drop (fun p hp=>.tail _ (.tail _ hp))))
      . have hFa:(wr.alloc (.cells #[.int .i64 kd.1,.int .u64 d0,.int .u64 d1,.int .u64 d2,.int .u64 d3,.slice a' kd.2.2.1.length cap',.int .i64 kd.2.2.2.1,.int .i64 kd.2.2.2.2.1] 27)).cell? ⟨F,0,none⟩=some (.bool true):=by rw[<- hf1];exact hra.getF.1
        have hKa:(wr.alloc (.cells #[.int .i64 kd.1,.int .u64 d0,.int .u64 d1,.int .u64 d2,.int .u64 d3,.slice a' kd.2.2.1.length cap',.int .i64 kd.2.2.2.1,.int .i64 kd.2.2.2.2.1] 27)).cell? ⟨w.heap.size,0,none⟩=some (.int .i64 n.1):=hra.own (.tail _ (.head _)) (i:=0) rfl;have HB1:=Go.Lib.hid hb1;have HE1:=Go.Lib.hid he;have HS3:=Go.Lib.hid hs3;have HKR:=Go.Lib.hid hkr;clear hf1 hb1 he hs3 hkr hkf hkc hall hr hkv hjl' hra HKF
        go_upto_region 9 with (fail)
        go_cut [26,39] from 26 to 47 (fun s26 s39 wd=>s26=.int .i64 j/\s39=.bool (decide (n.1=3) && decide (0<j))/\RSt w0 S0 B O F W s ((wr.heap.size,#[.int .i64 kd.1,.int .u64 d0,.int .u64 d1,.int .u64 d2,.int .u64 d3,.slice a' kd.2.2.1.length cap',.int .i64 kd.2.2.2.1,.int .i64 kd.2.2.2.2.1],27)::(w.heap.size,#[.int .i64 n.1,.int .u64 c0,.int .u64 c1,.int .u64 c2,.int .u64 c3,.slice (some ⟨b,off,none⟩) kl cap,.int .i64 n.2.2.2.1,.int .i64 n.2.2.2.2.1],27)::X) wd)
        case first =>
         by_cases h3:n.1=3
         . have h3b:(n.1 == 3)=true:=by simp[h3]
           have H3:=Go.Lib.hid h3;clear h3;by_cases hj1:(0:Int)<(j:Int)
           . go_wp2
             go_meet
             exact⟨rfl,congrArg Value.bool (by rw[decide_eq_true H3.out,decide_eq_true (by omega)];rfl),HRA.out⟩
           . go_wp2
             go_meet
             exact⟨rfl,congrArg Value.bool (by rw[decide_eq_true H3.out,decide_eq_false (by omega)];rfl),HRA.out⟩
         . have h3b:(n.1 == 3)=false:=by simp[h3]
           have H3:=Go.Lib.hid h3;clear h3
           go_wp2
           go_meet
           exact⟨rfl,congrArg Value.bool (by rw[decide_eq_false H3.out];rfl),HRA.out⟩
        case rest =>
        obtain⟨rfl,rfl,hcut⟩:=hcut;have HC9:=Go.Lib.hid hcut;clear hcut HRA
        go_upto_if 39 with (fail)
        go_cut [26] from 26 to 47 (fun s26 wd=>s26=.int .i64 j/\RSt w0 S0 B O F W s2 ((wr.heap.size,#[.int .i64 kd.1,.int .u64 d0,.int .u64 d1,.int .u64 d2,.int .u64 d3,.slice a' kd.2.2.1.length cap',.int .i64 kd.2.2.2.1,.int .i64 kd.2.2.2.2.1],27)::(w.heap.size,#[.int .i64 n.1,.int .u64 c0,.int .u64 c1,.int .u64 c2,.int .u64 c3,.slice (some ⟨b,off,none⟩) kl cap,.int .i64 n.2.2.2.1,.int .i64 n.2.2.2.2.1],27)::X) wd)
        case first =>
         have h1:=HB1.out;cases hbb:(decide (n.1=3) && decide (0<j)) with
         | false =>
           rw[zv9,if_neg (by simpa using hbb)] at h1;obtain rfl:=Option.some.inj h1;clear h1 hbb
           go_wp2
           go_meet
           exact⟨rfl,HC9.out⟩
         | true =>
           rw[zv9,if_pos (by simpa using hbb)] at h1;by_cases hroom:z9i s.1 1=true
           case neg=>rw[if_neg hroom] at h1;cases h1
           rw[if_pos hroom] at h1;obtain rfl:=Option.some.inj h1;have HB:=Go.Lib.hid (HC9.out.byte N 124 (c:=124) rfl hroom);clear h1 hroom hbb
           go_wp2_with (go_at_call 16;refine HB.out.mono ?_;rintro q1 w1 ⟨⟨v1,rfl⟩,hw1⟩;have HW1:=Go.Lib.hid hw1;clear HB hw1)
           go_meet
           exact⟨rfl,HW1.out⟩
        case rest =>
        obtain⟨rfl,hcut⟩:=hcut;have HC11:=Go.Lib.hid hcut;clear hcut HC9 HB1
        go_upto_region 11 with (fail)
        have y1:=And.intro (HC11.out.getW) (And.intro (HC11.out.eight (.head _)) (HC11.out.eight (.tail _ (.head _))));unfold z14x at y1;have HEN:=Go.Lib.hid (HC11.out.drew.enc N HG.out HN.out HKV.out HE1.out)
        go_region_held3 (fun w'=>(World.cell? w' ⟨W,0,none⟩=some (.func (.func 15) #[] #[.pointer (some ⟨B,0,none⟩),.pointer (some ⟨O,0,none⟩),.pointer (some ⟨F,0,none⟩),.pointer (some ⟨W,0,none⟩)]))/\(World.cell? w' ⟨wr.heap.size,0,none⟩=some (.int .i64 kd.1)/\World.cell? w' ⟨wr.heap.size,1,none⟩=some (.int .u64 d0)/\World.cell? w' ⟨wr.heap.size,2,none⟩=some (.int .u64 d1)/\World.cell? w' ⟨wr.heap.size,3,none⟩=some (.int .u64 d2)/\World.cell? w' ⟨wr.heap.size,4,none⟩=some (.int .u64 d3)/\World.cell? w' ⟨wr.heap.size,5,none⟩=some (Value.slice a' kd.2.2.1.length cap')/\World.cell? w' ⟨wr.heap.size,6,none⟩=some (.int .i64 kd.2.2.2.1)/\World.cell? w' ⟨wr.heap.size,7,none⟩=some (.int .i64 kd.2.2.2.2.1))/\(World.cell? w' ⟨w.heap.size,0,none⟩=some (.int .i64 n.1)/\World.cell? w' ⟨w.heap.size,1,none⟩=some (.int .u64 c0)/\World.cell? w' ⟨w.heap.size,2,none⟩=some (.int .u64 c1)/\World.cell? w' ⟨w.heap.size,3,none⟩=some (.int .u64 c2)/\World.cell? w' ⟨w.heap.size,4,none⟩=some (.int .u64 c3)/\World.cell? w' ⟨w.heap.size,5,none⟩=some (Value.slice (some ⟨b,off,none⟩) kl cap)/\World.cell? w' ⟨w.heap.size,6,none⟩=some (.int .i64 n.2.2.2.1)/\World.cell? w' ⟨w.heap.size,7,none⟩=some (.int .i64 n.2.2.2.2.1))) (first|exact y1|exact y2|exact y3) (first
         | (go_at_call 18;refine HEN.out.mono ?_;rintro q4 w4 ⟨rfl,hw4⟩;have y2:=And.intro (hw4.getW) (And.intro (hw4.eight (.head _)) (hw4.eight (.tail _ (.head _))));unfold z14x at y2;have HWR:=Go.Lib.hid (IH.out kd e w4 _ s2 s3 _ HKV.out hw4 HS3.out);clear hw4 HEN)
         | (go_at_call 15;refine HWR.out.mono ?_;rintro q5 w5 ⟨rfl,hw5⟩;have y3:=And.intro (hw5.getW) (And.intro (hw5.eight (.head _)) (hw5.eight (.tail _ (.head _))));unfold z14x at y3;have HW5:=Go.Lib.hid hw5;clear hw5 HWR))
        all_goals (have hwj:IntKind.i64.wrap ((j:Int)+1)=(j:Int)+1:=z1ej (by omega))
        all_goals (have hwk:Go.RowKit.wrap64 ((j:Int)+1)=(j:Int)+1:=by unfold Go.RowKit.wrap64;omega)
        all_goals go_wp2
        all_goals (
         go_roundg (kl - (j+1))
         case measure=>go_light;omega
         case rel=>go_light;exact⟨j+1,s3,by omega,rfl,by simp,HW5.out.drop (fun p hp=>.tail _ hp),HKR.out⟩)
    . obtain rfl:j=kl:=by omega
      have hjz:¬ ((j:Int)<(j:Int)):=by omega
      rw[show List.drop j n.2.2.1=[] from List.drop_eq_nil_of_le (by rw[HKL.out];exact Nat.le_refl _),z5g] at hkf;obtain rfl:=Option.some.inj hkf;have hy5:=HY.out;rw[if_neg (by simp),z15p] at hy5;obtain⟨e,he,hy5⟩:=Option.bind_eq_some_iff.1 hy5;dsimp only at he hy5;by_cases hroom:z9i s.1 (e.length+1)=true
      case neg=>rw[if_neg hroom] at hy5;cases hy5
      rw[if_pos hroom] at hy5;have hst5:=Option.some.inj hy5;have y1:=hr.eight (.head _);have HE5:=Go.Lib.hid (hr.end N HG.out HN.out he);have HRM:=Go.Lib.hid hroom;have HS5:=Go.Lib.hid hst5;clear hkf hy5 he hroom hst5 hr HY HK HKK hy;cases enc with
      | false =>
        go_wp2_with (first
         | (go_at_call 20;refine HE5.out.mono ?_;rintro q4 w4 ⟨rfl,hw4⟩;have HT5:=Go.Lib.hid (hw4.text N e HRM.out);clear hw4 HE5)
         | (go_at_call 19;refine HT5.out.mono ?_;rintro q5 w5 ⟨⟨v5,rfl⟩,hw5⟩;have HW5:=Go.Lib.hid hw5;clear hw5 HT5))
        refine bodyPost_end (results_none rfl _ _ _) rfl (HR.out _ ?_);have:=HS5.out;rw[if_neg (by decide)] at this;rw[<- this];exact HW5.out.drop (fun p hp=>.tail _ hp)
      | true =>
        go_wp2_with (first
         | (go_at_call 20;refine HE5.out.mono ?_;rintro q4 w4 ⟨rfl,hw4⟩;have HT5:=Go.Lib.hid (hw4.text N e HRM.out);clear hw4 HE5)
         | (go_at_call 19;refine HT5.out.mono ?_;rintro q5 w5 ⟨⟨v5,rfl⟩,hw5⟩;have HB5:=Go.Lib.hid (hw5.byte N 41 (c:=41) rfl (by have:=of_decide_eq_true HRM.out;unfold z9i;rw[decide_eq_true_eq,List.length_append];omega));clear hw5 HT5)
         | (go_at_call 16;refine HB5.out.mono ?_;rintro q6 w6 ⟨⟨v6,rfl⟩,hw6⟩;have hO1:w6.cell? ⟨O,0,none⟩=some (.int .i64 s.2.1):=hw6.getO.1;have hO2:=hw6.getO.2;have HW6:=Go.Lib.hid hw6;clear hw6 HB5))
        refine bodyPost_end (results_none rfl _ _ _) rfl (HR.out _ ?_);have:=HS5.out;rw[if_pos trivial] at this;rw[<- this];exact (HW6.out.setO _).drop (fun p hp=>.tail _ hp)
end
end Go.Proofs.YtnnjnkjfkaaikaaDoorLg
set_option linter.all false
set_option maxRecDepth 100000
namespace Go.Proofs.YtnnjnkjfkaaikaaDoorLg
noncomputable section
open Go Go.Lift
abbrev PrsT:T:=.pair .str TT0
theorem fail_walk {w:World}{v:Value}{e at_:Int} :
 Calls Tryd.prog 37 #[v,.int .i64 e,.int .i64 at_] w fun r w'=>r=.panicked [{ v:=.iface 40 (.agg #[.int .i64 e,.int .i64 at_]),recovered:=false }]/\w'=w:=by
 go_enter Tryd.func37,Tryd.ntmps37
 go_wp2
 exact⟨rfl,rfl,rfl⟩
def zq (N:Nat):List A->PnRes:=zi6 [(0,.box (.pair .str TT0)),(0,.v (.int .i64)),(0,.v (.int .i64))] (fun x=>some ((x.2.1,(x.2.2.1,())):Int×(Int×Unit))) (fun z=>⟨.pair (.int .i64) (.pair (.int .i64) .unit),z⟩)
theorem z12 (N:Nat):ContractP Tryd.prog glob 37 40 (zq N):=by
 refine ContractP.hand ⟨_,Tryd.func37,by kernel_rfl,by decide⟩ ?_;intro w S vals ob x y har hS hg hy;obtain⟨x,n,m,u⟩:=x;cases u;obtain⟨⟨v0,hv0,hA0⟩,_⟩:=har.rel 0 _ rfl;obtain⟨⟨v1,hv1,hA1⟩,_⟩:=har.rel 1 _ rfl;obtain⟨⟨v2,hv2,hA2⟩,_⟩:=har.rel 2 _ rfl;have hlen:=har.len;have hvals:vals=[v0,v1,v2]:=by
  match vals,hlen with
  | [a,b,c],_=>cases hv0;cases hv1;cases hv2;rfl
 have e1:=VR.int_inv hA1.1;have e2:=VR.int_inv hA2.1;subst e1;subst e2;subst hvals;cases hy;refine fail_walk.mono ?_;rintro r w' ⟨rfl,rfl⟩;exact⟨rfl,WF.refl _ _,hS⟩
def zx9:Code:=(Tryd.f84.body).getD .skip
def L_75:List (List Nat×List Nat):=[([0],[0]),([0,0,1],[12,0]),([1,0,1],[0]),([0,1,0,1],[0]),([0,1,1],[2,0]),([1,1,1],[2,0])]
def E_75 (N:Nat):Env:=z1d tys glob [] [] [] [0] false [] []
theorem z1rv (N:Nat):EnvOk Tryd.prog (E_75 N):=zg mixed zn (FnsOk.nil) (ItsOk.nil)
def z3f (N:Nat):PnT:=pnT [(37,40,zq N)]
theorem z86 (N:Nat):PnOk Tryd.prog glob (z3f N):=PnOk.cons (z12 N) (PnOk.nil)
def z92 (N:Nat)(p:DT3)(k0:(Int×(Int×Unit))->Option (Int×(Int×Unit)))(k1:Option (Int×(Int×Unit))):Option (Int×(Int×Unit)) :=
 cond (p.2.1 == (((List.length p.1):Nat):Int))
 (k0 ((1:Int),(p.2.1,())))
 (k1)
def z1pc (N:Nat)(x:zw SQ0)(K:ExP->List A->Option (Int×(Int×Unit))):Option (Int×(Int×Unit)) :=
 z92 N x.1 (fun a0=>(K (.pan 40) (mkS [(0,.v TT0)] 0 (a0,())))) (K .normal (mkS SQ0 27 (x.1,())))
def z1lq (N:Nat):HdP (Int×(Int×Unit)):=fun st K=>(unS SQ0 27 (restr [0] 0 st)).bind fun x=>z1pc N x K
def t1_75 (N:Nat):zcp (Int×(Int×Unit)):=[]
theorem z1hm {N:Nat}{c:Ctx}(hb:Base Tryd.prog (E_75 N) c)(hP:PnOk Tryd.prog glob (z3f N)):z22 Tryd.prog c (zf zx9 [0,1]) (z1lq N) :=
 z26 (s:=SQ0) (m:=27) (g:=z1pc N) [0] (z1n hb hP N (t1_75 N) L_75 zx9 TabOkP.nil [0,1] _ rfl) (fun x K=>by kernel_rfl)
def z24 (N:Nat)(p:DT3):Option (Int×(Int×Unit)) :=
 z92 N p
 (fun p1=>some p1)
 (cond (inR p.2.1 (List.length p.1))
 (none)
 (none))
def t_75 (N:Nat):zcp (Int×(Int×Unit)):=[([0,1],z1lq N)]
theorem z1a3 (N:Nat)(x:zw SQ0):zi7 (E_75 N) (z3f N) N (t_75 N) L_75 Tryd.f84 40 TT0 (mkS SQ0 0 x) (fun z=>some z)=z24 N x.1:=by kernel_rfl
def z1w (N:Nat):List A->PnRes:=zi6 SQ0 (fun x=>z24 N x.1) (fun z=>⟨TT0,z⟩)
theorem z2n (N:Nat):ContractP Tryd.prog glob 84 40 (z1w N) :=
 ContractP.of (E:=E_75 N) (Pn:=z3f N) (H:=t_75 N) (L:=L_75) (N:=N) (body:=zx9) (t:=TT0) (z1rv N) (z86 N) Tryd.func84 (by kernel_rfl) (by decide) (fun _ hb=>(TabOkP.cons (z1hm hb (z86 N)) TabOkP.nil)) (fun x y h=>by rw[z1a3];exact h)
def zx8:Code:=(Tryd.f77.body).getD .skip
def L_76:List (List Nat×List Nat):=[([0,0],[7,0]),([1,0],[0]),([0,1,0],[0]),([1],[0])]
def E_76 (N:Nat):Env:=z1d tys glob [(84,z15 N)] [] [] [0] false [] []
theorem z1ru (N:Nat):EnvOk Tryd.prog (E_76 N):=zg mixed zn (FnsOk.cons (z1c N) (FnsOk.nil)) (ItsOk.nil)
def z3g (N:Nat):PnT:=pnT [(84,40,z1w N),(37,40,zq N)]
theorem z87 (N:Nat):PnOk Tryd.prog glob (z3g N):=PnOk.cons (z2n N) (PnOk.cons (z12 N) (PnOk.nil))
def z93 (N:Nat)(p:DT3)(b:Int)(k0:(Int×(Int×Unit))->Option (Int×(Int×Unit)))(k1:DT3->Option (Int×(Int×Unit))):Option (Int×(Int×Unit)) :=
 orP ((z24 N p)) (fun z=>k0 z)
 ((z1e N p).bind fun y =>
 cond (y.1 != b)
 (k0 ((2:Int),(y.2.1.2.1,())))
 (k1 y.2.1))
def z1pb (N:Nat)(x:zw zqn)(K:ExP->List A->Option (Int×(Int×Unit))):Option (Int×(Int×Unit)) :=
 z93 N x.1 x.2.1 (fun a0=>(K (.pan 40) (mkS [(0,.v TT0)] 0 (a0,())))) (fun a0=>(K .normal (mkS SQ0 20 (a0,()))))
def z1lp (N:Nat):HdP (Int×(Int×Unit)):=fun st K=>(unS zqn 19 (restr [0,1] 0 st)).bind fun x=>z1pb N x K
def t1_76 (N:Nat):zcp (Int×(Int×Unit)):=[]
theorem z1hl {N:Nat}{c:Ctx}(hb:Base Tryd.prog (E_76 N) c)(hP:PnOk Tryd.prog glob (z3g N)):z22 Tryd.prog c (zf zx8 [0]) (z1lp N) :=
 z26 (s:=zqn) (m:=19) (g:=z1pb N) [0,1] (z1n hb hP N (t1_76 N) L_76 zx8 TabOkP.nil [0] _ rfl) (fun x K=>by kernel_rfl)
def z25 (N:Nat)(p:DT3)(b:Int):Option (Int×(Int×Unit)) :=
 z93 N p b
 (fun p1=>some p1)
 (fun p2=>none)
def t_76 (N:Nat):zcp (Int×(Int×Unit)):=[([0],z1lp N)]
theorem z1a2 (N:Nat)(x:zw zqn):zi7 (E_76 N) (z3g N) N (t_76 N) L_76 Tryd.f77 40 TT0 (mkS zqn 0 x) (fun z=>some z)=z25 N x.1 x.2.1:=by kernel_rfl
def z2d (N:Nat):List A->PnRes:=zi6 zqn (fun x=>z25 N x.1 x.2.1) (fun z=>⟨TT0,z⟩)
theorem z38 (N:Nat):ContractP Tryd.prog glob 77 40 (z2d N) :=
 ContractP.of (E:=E_76 N) (Pn:=z3g N) (H:=t_76 N) (L:=L_76) (N:=N) (body:=zx8) (t:=TT0) (z1ru N) (z87 N) Tryd.func77 (by kernel_rfl) (by decide) (fun _ hb=>(TabOkP.cons (z1hl hb (z87 N)) TabOkP.nil)) (fun x y h=>by rw[z1a2];exact h)
def zax:Code:=(Tryd.f76.body).getD .skip
def z184:List (List Nat×List Nat):=[([0],[0]),([0,1],[0,3]),([0,0,1,1],[12,0,3]),([1,0,1,1],[0,3]),([0,1,0,1,1],[0,3]),([0,1,1,1],[0,4,3]),([0,0,1,1,1,1],[0,4,3]),([0,0,0,0,0,1,1,1,1],[37,4,0,3]),([1,0,0,0,0,1,1,1,1],[4,0,3]),(z16r,[0,3,4]),([0,0,1,0,0,0,1,1,1,1],[0,4,3]),([1,0,1,0,0,0,1,1,1,1],[0,4,3]),([1,0,0,0,1,1,1,1],[0,4,3]),([0,1,1,1,1],[0,3,4]),(zms,[75,0,3,4]),(z11k,[4,0,3]),(z1da,[4,0,3]),(z16u,[80,0,3,4]),(z16t,[4,0]),(z14r,[4,0]),(z182,[2,0]),(z181,[2,0])]
def z16y (N:Nat):Env:=z1d tys glob [(84,z15 N),(86,z6s N)] [] [] [0] false [] []
theorem z1rt (N:Nat):EnvOk Tryd.prog (z16y N):=zg mixed zn (FnsOk.cons (z1c N) (FnsOk.cons (zb0 N) (FnsOk.nil))) (ItsOk.nil)
def z1b (N:Nat):PnT:=pnT [(84,40,z1w N),(37,40,zq N)]
theorem z37 (N:Nat):PnOk Tryd.prog glob (z1b N):=PnOk.cons (z2n N) (PnOk.cons (z12 N) (PnOk.nil))
def z9s (N:Nat)(p:DT3)(from_:Int)(k0:(Int×(Int×Unit))->Option (Int×(Int×Unit)))(k1:DT3->Option (Int×(Int×Unit))):Option (Int×(Int×Unit)) :=
 orP ((z24 N p)) (fun z=>k0 z)
 ((z1e N p).bind fun y =>
 (z6t N y.1).bind fun y1 =>
 cond (!y1)
 (k0 ((2:Int),(from_,())))
 (k1 y.2.1))
def z1pa (N:Nat)(x:zw z17v)(K:ExP->List A->Option (Int×(Int×Unit))):Option (Int×(Int×Unit)) :=
 z9s N x.1 x.2.1 (fun a0=>(K (.pan 40) (mkS [(0,.v TT0)] 0 (a0,())))) (fun a0=>(K .normal (mkS z17v 81 (a0,x.2.1,()))))
def z1lo (N:Nat):HdP (Int×(Int×Unit)):=fun st K=>(unS z17v 81 (restr [0,3] 0 st)).bind fun x=>z1pa N x K
def t1_77 (N:Nat):zcp (Int×(Int×Unit)):=[]
theorem z1hk {N:Nat}{c:Ctx}(hb:Base Tryd.prog (z16y N) c)(hP:PnOk Tryd.prog glob (z1b N)):z22 Tryd.prog c (zf zax [0,1,1]) (z1lo N) :=
 z26 (s:=z17v) (m:=81) (g:=z1pa N) [0,3] (z1n hb hP N (t1_77 N) z184 zax TabOkP.nil [0,1,1] _ rfl) (fun x K=>by kernel_rfl)
def z9q (N:Nat)(p:DT3)(from_:Int)(n:Int)(k0:Option (Int×(Int×Unit)))(k1:Option (Int×(Int×Unit))):Option (Int×(Int×Unit)) :=
 cond (decide (p.2.1<(((List.length p.1):Nat):Int)))
 (cond (inR p.2.1 (List.length p.1))
 ((z6t N (((UInt8.toNat (List.getD p.1 (Int.toNat p.2.1) (0:UInt8))):Nat):Int)).bind fun y =>
 cond y
 (k0)
 (k1))
 (none))
 (k1)
def z1nj (N:Nat)(x:zw SQ1)(K:ExP->List A->Option (Int×(Int×Unit))):Option (Int×(Int×Unit)) :=
 z9q N x.1 x.2.1 x.2.2.1 (K .normal (mkS SQ1 80 (x.1,x.2.1,x.2.2.1,()))) (K (.exit 0) (mkS SQ1 80 (x.1,x.2.1,x.2.2.1,())))
def z1jx (N:Nat):HdP (Int×(Int×Unit)):=fun st K=>(unS SQ1 80 (restr [0,4,3] 0 st)).bind fun x=>z1nj N x K
def t4_77 (N:Nat):zcp (Int×(Int×Unit)):=[]
theorem z1ft {N:Nat}{c:Ctx}(hb:Base Tryd.prog (z16y N) c)(hP:PnOk Tryd.prog glob (z1b N)):z22 Tryd.prog c (zf zax z117) (z1jx N) :=
 z26 (s:=SQ1) (m:=80) (g:=z1nj N) [0,4,3] (z1n hb hP N (t4_77 N) z184 zax TabOkP.nil z117 _ rfl) (fun x K=>by kernel_rfl)
def z9n (N:Nat)(from_:Int)(p:DT3)(n:Int)(rec:DT3->Int->Option (Int×(Int×Unit)))(k0:DT3->Int->Option (Int×(Int×Unit))):Option (Int×(Int×Unit)) :=
 z9q N p from_ n
 (cond (inR p.2.1 (List.length p.1))
 (rec (p.1,((IntKind.wrap IntKind.i64 (p.2.1+(1:Int))),p.2.2)) (if ((17:Int)<(IntKind.wrap IntKind.i64 ((IntKind.wrap IntKind.i64 ((10:Int)*n))+(IntKind.wrap IntKind.i64 (IntKind.wrap IntKind.u8 ((((UInt8.toNat (List.getD p.1 (Int.toNat p.2.1) (0:UInt8))):Nat):Int) - (48:Int))))))) then (17:Int) else (IntKind.wrap IntKind.i64 ((IntKind.wrap IntKind.i64 ((10:Int)*n))+(IntKind.wrap IntKind.i64 (IntKind.wrap IntKind.u8 ((((UInt8.toNat (List.getD p.1 (Int.toNat p.2.1) (0:UInt8))):Nat):Int) - (48:Int))))))))
 (none))
 (k0 p n)
def zgg (N:Nat)(p:DT3)(from_:Int)(n:Int)(k0:DT3->Int->Option (Int×(Int×Unit))):Option (Int×(Int×Unit)) :=
 iter (fun (v:(DT3×Int)) r=>z9n N from_ v.1 v.2 (fun p n=>(r (p,n))) k0) N (p,n)
def z1nt (N:Nat)(i:Int)(v:(DT3×Int))(r:(DT3×Int)->Option (Int×(Int×Unit)))(K:ExP->List A->Option (Int×(Int×Unit))):Option (Int×(Int×Unit)) :=
 z9n N i v.1 v.2 (fun p n=>(r (p,n))) (fun a0 a2=>(K (.exit 0) (mkS SQ1 80 (a0,i,a2,()))))
def z1k7 (N:Nat):HdP (Int×(Int×Unit)):=fun st K=>(unS SQ1 80 (restr [0,4,3] 0 st)).bind fun x=>iter (fun v r=>z1nt N ((fun x=>x.2.1) x) v r K) N ((fun x=>(x.1,x.2.2.1)) x)
def t3_77 (N:Nat):zcp (Int×(Int×Unit)):=[(z117,z1jx N)]
theorem z1g3 {N:Nat}{c:Ctx}(hb:Base Tryd.prog (z16y N) c)(hP:PnOk Tryd.prog glob (z1b N)):z22 Tryd.prog c (zf zax [0,0,1,1,1,1]) (z1k7 N) :=
 znt (s:=SQ1) (m:=80) (z1nt N) [0,4,3] N (fun x=>x.2.1) (fun x=>(x.1,x.2.2.1)) (fun i v=>(v.1,i,v.2,())) (fun _=>rfl) (z1n hb hP N (t3_77 N) z184 zax (TabOkP.cons (z1ft hb hP) TabOkP.nil) [0,0,0,1,1,1,1] _ rfl) (fun i v r K=>by kernel_rfl)
def z9r (N:Nat)(p:DT3)(from_:Int)(n:Int)(k0:DT3->Int->Option (Int×(Int×Unit))):Option (Int×(Int×Unit)) :=
 zgg N p from_ n
 (fun p1 n1=>k0 p1 n1)
def z1oc (N:Nat)(x:zw SQ1)(K:ExP->List A->Option (Int×(Int×Unit))):Option (Int×(Int×Unit)) :=
 z9r N x.1 x.2.1 x.2.2.1 (fun a0 a2=>(K .normal (mkS SQ1 80 (a0,x.2.1,a2,()))))
def z1kq (N:Nat):HdP (Int×(Int×Unit)):=fun st K=>(unS SQ1 80 (restr [0,4,3] 0 st)).bind fun x=>z1oc N x K
def t2_77 (N:Nat):zcp (Int×(Int×Unit)):=[([0,0,1,1,1,1],z1k7 N)]
theorem z1gm {N:Nat}{c:Ctx}(hb:Base Tryd.prog (z16y N) c)(hP:PnOk Tryd.prog glob (z1b N)):z22 Tryd.prog c (zf zax [0,1,1,1,1]) (z1kq N) :=
 z26 (s:=SQ1) (m:=80) (g:=z1oc N) [0,4,3] (z1n hb hP N (t2_77 N) z184 zax (TabOkP.cons (z1g3 hb hP) TabOkP.nil) [0,1,1,1,1] _ rfl) (fun x K=>by kernel_rfl)
def z9o (N:Nat)(p:DT3)(from_:Int)(n:Int)(k0:Bool->Option (Int×(Int×Unit))):Option (Int×(Int×Unit)) :=
 cond (inR from_ (List.length p.1))
 (cond ((((UInt8.toNat (List.getD p.1 (Int.toNat from_) (0:UInt8))):Nat):Int) == (48:Int))
 (k0 (decide ((IntKind.wrap IntKind.i64 (from_+(1:Int)))<p.2.1)))
 (k0 false))
 (none)
def z1n5 (N:Nat)(x:zw SQ1)(K:ExP->List A->Option (Int×(Int×Unit))):Option (Int×(Int×Unit)) :=
 z9o N x.1 x.2.1 x.2.2.1 (fun a3=>(K .normal (mkS SQ88 9 (x.1,x.2.1,x.2.2.1,a3,()))))
def z1jj (N:Nat):HdP (Int×(Int×Unit)):=fun st K=>(unS SQ1 80 (restr [0,3,4] 0 st)).bind fun x=>z1n5 N x K
def t6_77 (N:Nat):zcp (Int×(Int×Unit)):=[]
theorem z1ff {N:Nat}{c:Ctx}(hb:Base Tryd.prog (z16y N) c)(hP:PnOk Tryd.prog glob (z1b N)):z22 Tryd.prog c (zf zax zms) (z1jj N) :=
 z26 (s:=SQ1) (m:=80) (g:=z1n5 N) [0,3,4] (z1n hb hP N (t6_77 N) z184 zax TabOkP.nil zms _ rfl) (fun x K=>by kernel_rfl)
def z9p (N:Nat)(p:DT3)(from_:Int)(n:Int)(k0:(Int×(Int×Unit))->Option (Int×(Int×Unit)))(k1:Option (Int×(Int×Unit))):Option (Int×(Int×Unit)) :=
 z9o N p from_ n
 (fun x75=>cond x75
 (k0 ((2:Int),(from_,())))
 (k1))
def z1nb (N:Nat)(x:zw SQ1)(K:ExP->List A->Option (Int×(Int×Unit))):Option (Int×(Int×Unit)) :=
 z9p N x.1 x.2.1 x.2.2.1 (fun a0=>(K (.pan 40) (mkS [(0,.v TT0)] 0 (a0,())))) (K .normal (mkS SQ1 80 (x.1,x.2.1,x.2.2.1,())))
def z1jp (N:Nat):HdP (Int×(Int×Unit)):=fun st K=>(unS SQ1 80 (restr [0,3,4] 0 st)).bind fun x=>z1nb N x K
def t5_77 (N:Nat):zcp (Int×(Int×Unit)):=[(zms,z1jj N)]
theorem z1fl {N:Nat}{c:Ctx}(hb:Base Tryd.prog (z16y N) c)(hP:PnOk Tryd.prog glob (z1b N)):z22 Tryd.prog c (zf zax [0,1,1,1,1,1]) (z1jp N) :=
 z26 (s:=SQ1) (m:=80) (g:=z1nb N) [0,3,4] (z1n hb hP N (t5_77 N) z184 zax (TabOkP.cons (z1ff hb hP) TabOkP.nil) [0,1,1,1,1,1] _ rfl) (fun x K=>by kernel_rfl)
def z4g (N:Nat)(p:DT3):Option (Int×(Int×Unit)) :=
 z9s N p p.2.1
 (fun p1=>some p1)
 (fun p2=>z9r N p2 p.2.1 (0:Int)
 (fun p3 n=>z9p N p3 p.2.1 n
 (fun p4=>some p4)
 (cond (decide ((16:Int)<n))
 (some ((3:Int),(p.2.1,())))
 (none))))
def t_77 (N:Nat):zcp (Int×(Int×Unit)):=[([0,1,1],z1lo N),([0,1,1,1,1],z1kq N),([0,1,1,1,1,1],z1jp N)]
theorem z1a1 (N:Nat)(x:zw SQ0):zi7 (z16y N) (z1b N) N (t_77 N) z184 Tryd.f76 40 TT0 (mkS SQ0 0 x) (fun z=>some z)=z4g N x.1:=by kernel_rfl
def z91 (N:Nat):List A->PnRes:=zi6 SQ0 (fun x=>z4g N x.1) (fun z=>⟨TT0,z⟩)
theorem zgh (N:Nat):ContractP Tryd.prog glob 76 40 (z91 N) :=
 ContractP.of (E:=z16y N) (Pn:=z1b N) (H:=t_77 N) (L:=z184) (N:=N) (body:=zax) (t:=TT0) (z1rt N) (z37 N) Tryd.func76 (by kernel_rfl) (by decide) (fun _ hb=>(TabOkP.cons (z1hk hb (z37 N)) (TabOkP.cons (z1gm hb (z37 N)) (TabOkP.cons (z1fl hb (z37 N)) TabOkP.nil)))) (fun x y h=>by rw[z1a1];exact h)
def zpp:Code:=(Tryd.f85.body).getD .skip
def L_78:List (List Nat×List Nat):=[([0],[0,1]),([0,1],[0,5,1]),([0,1,1],[5,0,1]),([0,0,1,1,1],[16,5,0,1]),([1,0,1,1,1],[5,0,1]),(z115,[4,0]),(z14m,[4,0]),([0,0,1,1,1,1],[24,0,1,5]),([1,0,1,1,1,1],[5,0]),(z14q,[5,0]),([0,1,1,1,1,1],[4,0]),([1,1,1,1,1,1],[4,0])]
def z1tp (N:Nat):Env:=z1d tys glob [(84,z15 N),(86,z6s N)] [] [] [0] false [] []
theorem z1rs (N:Nat):EnvOk Tryd.prog (z1tp N):=zg mixed zn (FnsOk.cons (z1c N) (FnsOk.cons (zb0 N) (FnsOk.nil))) (ItsOk.nil)
def z2x (N:Nat):PnT:=pnT [(84,40,z1w N),(37,40,zq N)]
theorem z99 (N:Nat):PnOk Tryd.prog glob (z2x N):=PnOk.cons (z2n N) (PnOk.cons (z12 N) (PnOk.nil))
def z9t (N:Nat)(p:DT3)(from_:Int)(b:Int)(k0:Bool->Option (Int×(Int×Unit))):Option (Int×(Int×Unit)) :=
 cond (decide (b<(97:Int)))
 (k0 true)
 (k0 (decide ((102:Int)<b)))
def z1ob (N:Nat)(x:zw z11j)(K:ExP->List A->Option (Int×(Int×Unit))):Option (Int×(Int×Unit)) :=
 z9t N x.1 x.2.1 x.2.2.1 (fun a3=>(K .normal (mkS [(0,.box (.pair .str TT0)),(0,.v (.int .i64)),(3,.v (.int .u8)),(18,.v .bool)] 6 (x.1,x.2.1,x.2.2.1,a3,()))))
def z1kp (N:Nat):HdP (Int×(Int×Unit)):=fun st K=>(unS z11j 25 (restr [5,0,1] 0 st)).bind fun x=>z1ob N x K
def t2_78 (N:Nat):zcp (Int×(Int×Unit)):=[]
theorem z1gl {N:Nat}{c:Ctx}(hb:Base Tryd.prog (z1tp N) c)(hP:PnOk Tryd.prog glob (z2x N)):z22 Tryd.prog c (zf zpp [0,0,1,1,1,1]) (z1kp N) :=
 z26 (s:=z11j) (m:=25) (g:=z1ob N) [5,0,1] (z1n hb hP N (t2_78 N) L_78 zpp TabOkP.nil [0,0,1,1,1,1] _ rfl) (fun x K=>by kernel_rfl)
def z9u (N:Nat)(p:DT3)(from_:Int)(b:Int)(k0:(Int×(Int×Unit))->Option (Int×(Int×Unit)))(k1:Option (Int×(Int×Unit))):Option (Int×(Int×Unit)) :=
 z9t N p from_ b
 (fun x24=>cond x24
 (k0 ((2:Int),(from_,())))
 (k1))
def z1p9 (N:Nat)(x:zw z11j)(K:ExP->List A->Option (Int×(Int×Unit))):Option (Int×(Int×Unit)) :=
 z9u N x.1 x.2.1 x.2.2.1 (fun a0=>(K (.pan 40) (mkS [(0,.v TT0)] 0 (a0,())))) (K .normal (mkS [(0,.box (.pair .str TT0)),(4,.v (.int .u8))] 25 (x.1,x.2.2.1,())))
def z1ln (N:Nat):HdP (Int×(Int×Unit)):=fun st K=>(unS z11j 25 (restr [5,0,1] 0 st)).bind fun x=>z1p9 N x K
def t1_78 (N:Nat):zcp (Int×(Int×Unit)):=[([0,0,1,1,1,1],z1kp N)]
theorem z1hj {N:Nat}{c:Ctx}(hb:Base Tryd.prog (z1tp N) c)(hP:PnOk Tryd.prog glob (z2x N)):z22 Tryd.prog c (zf zpp [0,1,1,1,1]) (z1ln N) :=
 z26 (s:=z11j) (m:=25) (g:=z1p9 N) [5,0,1] (z1n hb hP N (t1_78 N) L_78 zpp (TabOkP.cons (z1gl hb hP) TabOkP.nil) [0,1,1,1,1] _ rfl) (fun x K=>by kernel_rfl)
def z4h (N:Nat)(p:DT3)(from_:Int):Option (Int×(Int×Unit)) :=
 orP ((z24 N p)) (fun z=>some z)
 ((z1e N p).bind fun y =>
 (z6t N y.1).bind fun y1 =>
 cond y1
 (none)
 (z9u N (y.2.1.1,((IntKind.wrap IntKind.i64 (y.2.1.2.1+(1:Int))),y.2.1.2.2)) from_ y.1
 (fun p1=>some p1)
 (none)))
def t_78 (N:Nat):zcp (Int×(Int×Unit)):=[([0,1,1,1,1],z1ln N)]
theorem z1a0 (N:Nat)(x:zw z1du):zi7 (z1tp N) (z2x N) N (t_78 N) L_78 Tryd.f85 40 TT0 (mkS z1du 0 x) (fun z=>some z)=z4h N x.1 x.2.1:=by kernel_rfl
def z98 (N:Nat):List A->PnRes:=zi6 z1du (fun x=>z4h N x.1 x.2.1) (fun z=>⟨TT0,z⟩)
theorem zgi (N:Nat):ContractP Tryd.prog glob 85 40 (z98 N) :=
 ContractP.of (E:=z1tp N) (Pn:=z2x N) (H:=t_78 N) (L:=L_78) (N:=N) (body:=zpp) (t:=TT0) (z1rs N) (z99 N) Tryd.func85 (by kernel_rfl) (by decide) (fun _ hb=>(TabOkP.cons (z1hj hb (z99 N)) TabOkP.nil)) (fun x y h=>by rw[z1a0];exact h)
def zx7:Code:=(Tryd.f75.body).getD .skip
def L_79:List (List Nat×List Nat):=[([0],[0,2]),([0,1],[0,2,4]),([0,1,1],[0,2,4]),([0,1,1,1],[0,5,2,4]),([0,1,1,1,1],[5,2,0,4]),([0,0,0,1,1,1,1,1],[22,2,0,5,4]),([1,0,0,1,1,1,1,1],[5,2,0]),([0,1,1,0,0,1,1,1,1,1],[26,2,0,5,4]),([1,1,1,0,0,1,1,1,1,1],[5,2,0]),([0,1,1,1,1,0,0,1,1,1,1,1],[30,0,4,2,5]),([1,1,1,1,1,0,0,1,1,1,1,1],[5,2,0]),([0,1,1,1,1,1,1,0,0,1,1,1,1,1],[42,0,4,5,2]),([1,1,1,1,1,1,1,0,0,1,1,1,1,1],[5,2,0]),([0,1,1,1,1,1,1,1,0,0,1,1,1,1,1],[5,2,0]),([0,0,1,1,1,1,1,0,0,1,1,1,1,1],[6,0,4,2]),([1,0,1,1,1,1,1,0,0,1,1,1,1,1],[5,2,0]),([0,0,1,1,1,0,0,1,1,1,1,1],[2,3,0]),([1,0,1,1,1,0,0,1,1,1,1,1],[2,3,0]),([0,0,1,0,0,1,1,1,1,1],[2,3,0]),([1,0,1,0,0,1,1,1,1,1],[2,3,0]),([0,1,1,1,1,1],[5,2,0]),(z116,[2,3,0]),(z17z,[2,3,0])]
def E_79 (N:Nat):Env:=z1d tys glob [(26,z2j N),(27,z76 N),(54,z2m N),(77,z1j N),(84,z15 N),(85,z7j N)] [] [] [0] false [] []
theorem z1rr (N:Nat):EnvOk Tryd.prog (E_79 N):=zg mixed zn (FnsOk.cons (z34 N) (FnsOk.cons (zbv N) (FnsOk.cons (z3c N) (FnsOk.cons (z1z N) (FnsOk.cons (z1c N) (FnsOk.cons (zdr N) (FnsOk.nil))))))) (ItsOk.nil)
def z33 (N:Nat):PnT:=pnT [(85,40,z98 N),(77,40,z2d N),(84,40,z1w N),(37,40,zq N)]
theorem z6o (N:Nat):PnOk Tryd.prog glob (z33 N):=PnOk.cons (zgi N) (PnOk.cons (z38 N) (PnOk.cons (z2n N) (PnOk.cons (z12 N) (PnOk.nil))))
def z7b (N:Nat)(p:DT3)(set_:(List Int))(from_:Int)(b:Int)(k0:(List Int)->Bool->Option (Int×(Int×Unit)))(k1:(Int×(Int×Unit))->Option (Int×(Int×Unit)))(k2:DT3->Int->Option (Int×(Int×Unit))):Option (Int×(Int×Unit)) :=
 cond (b == (100:Int))
 ((z29 N (48:Int) (57:Int)).bind fun y =>
 k0 y true)
 (cond (b == (119:Int))
 ((z48 N ((48:UInt8)::(49:UInt8)::(50:UInt8)::(51:UInt8)::(52:UInt8)::(53:UInt8)::(54:UInt8)::(55:UInt8)::(56:UInt8)::(57:UInt8)::(65:UInt8)::(66:UInt8)::(67:UInt8)::(68:UInt8)::(69:UInt8)::(70:UInt8)::(71:UInt8)::(72:UInt8)::(73:UInt8)::(74:UInt8)::(75:UInt8)::(76:UInt8)::(77:UInt8)::(78:UInt8)::(79:UInt8)::(80:UInt8)::(81:UInt8)::(82:UInt8)::(83:UInt8)::(84:UInt8)::(85:UInt8)::(86:UInt8)::(87:UInt8)::(88:UInt8)::(89:UInt8)::(90:UInt8)::(95:UInt8)::(97:UInt8)::(98:UInt8)::(99:UInt8)::(100:UInt8)::(101:UInt8)::(102:UInt8)::(103:UInt8)::(104:UInt8)::(105:UInt8)::(106:UInt8)::(107:UInt8)::(108:UInt8)::(109:UInt8)::(110:UInt8)::(111:UInt8)::(112:UInt8)::(113:UInt8)::(114:UInt8)::(115:UInt8)::(116:UInt8)::(117:UInt8)::(118:UInt8)::(119:UInt8)::(120:UInt8)::(121:UInt8)::(122:UInt8)::([]:List UInt8))).bind fun y1 =>
 k0 y1 true)
 (cond (b == (120:Int))
 (orP ((z4h N p from_)) (fun z=>k1 z)
 ((z41 N p from_).bind fun y2 =>
 orP ((z4h N y2.2.1 from_)) (fun z1=>k1 z1)
 ((z41 N y2.2.1 from_).bind fun y3 =>
 k2 y3.2.1 (zb Go.BinOp.or IntKind.u8 (z11d IntKind.u8 y2.1 (4:Int)) y3.1))))
 (cond (decide ((Go.Lib.indexByte ([(92:UInt8),(46:UInt8),(91:UInt8),(93:UInt8),(40:UInt8),(41:UInt8),(123:UInt8),(125:UInt8),(124:UInt8),(42:UInt8),(43:UInt8),(63:UInt8),(45:UInt8),(94:UInt8)]:List UInt8) (Nat.toUInt8 (Int.toNat b)))<(0:Int)))
 (k1 ((2:Int),(from_,())))
 (k2 p b))))
def z1p8 (N:Nat)(x:zw z1e4)(K:ExP->List A->Option (Int×(Int×Unit))):Option (Int×(Int×Unit)) :=
 z7b N x.1 x.2.1 x.2.2.1 x.2.2.2.1 (fun a1 a2=>(K .ret (mkS SQ49 48 (x.1,a1,a2,())))) (fun a0=>(K (.pan 40) (mkS [(0,.v TT0)] 0 (a0,())))) (fun a0 a2=>(K .normal (mkS [(0,.box (.pair .str TT0)),(1,.box (.arr 4 (.int .u64))),(2,.v (.int .u8))] 46 (a0,x.2.1,a2,()))))
def z1lm (N:Nat):HdP (Int×(Int×Unit)):=fun st K=>(unS z1e4 46 (restr [5,2,0,4] 0 st)).bind fun x=>z1p8 N x K
def t1_79 (N:Nat):zcp (Int×(Int×Unit)):=[]
theorem z1hi {N:Nat}{c:Ctx}(hb:Base Tryd.prog (E_79 N) c)(hP:PnOk Tryd.prog glob (z33 N)):z22 Tryd.prog c (zf zx7 [0,1,1,1,1,1]) (z1lm N) :=
 z26 (s:=z1e4) (m:=46) (g:=z1p8 N) [5,2,0,4] (z1n hb hP N (t1_79 N) L_79 zx7 TabOkP.nil [0,1,1,1,1,1] _ rfl) (fun x K=>by kernel_rfl)
def z3h (N:Nat)(p:DT3):Option (Int×(Int×Unit)) :=
 orP ((z25 N p (92:Int))) (fun z=>some z)
 ((z1f N p (92:Int)).bind fun y =>
 orP ((z24 N y.2.1)) (fun z1=>some z1)
 ((z1e N y.2.1).bind fun y1 =>
 z7b N (y1.2.1.1,((IntKind.wrap IntKind.i64 (y1.2.1.2.1+(1:Int))),y1.2.1.2.2)) ([(0:Int),(0:Int),(0:Int),(0:Int)]:List Int) p.2.1 y1.1
 (fun set_ class_=>none)
 (fun p1=>some p1)
 (fun p2 b=>(z29 N b b).bind fun y2 =>
 none)))
def t_79 (N:Nat):zcp (Int×(Int×Unit)):=[([0,1,1,1,1,1],z1lm N)]
theorem z19z (N:Nat)(x:zw SQ0):zi7 (E_79 N) (z33 N) N (t_79 N) L_79 Tryd.f75 40 TT0 (mkS SQ0 0 x) (fun z=>some z)=z3h N x.1:=by kernel_rfl
def z3p (N:Nat):List A->PnRes:=zi6 SQ0 (fun x=>z3h N x.1) (fun z=>⟨TT0,z⟩)
theorem z7c (N:Nat):ContractP Tryd.prog glob 75 40 (z3p N) :=
 ContractP.of (E:=E_79 N) (Pn:=z33 N) (H:=t_79 N) (L:=L_79) (N:=N) (body:=zx7) (t:=TT0) (z1rr N) (z6o N) Tryd.func75 (by kernel_rfl) (by decide) (fun _ hb=>(TabOkP.cons (z1hi hb (z6o N)) TabOkP.nil)) (fun x y h=>by rw[z19z];exact h)
def zpo:Code:=(Tryd.f92.body).getD .skip
def L_80:List (List Nat×List Nat):=[([0],[0,2]),([0,1],[4,0,2]),([0,0,1,1],[7,0,2,4]),([0,0,1,0,1,1],[8,0,2,7,4]),([1,0,1,0,1,1],[0,4,2]),([0,0,1,1,0,1,0,1,1],[14,0,4,2,7]),([1,0,1,1,0,1,0,1,1],[14,0,4,2]),([0,1,1,0,1,1,0,1,0,1,1],[14,0,4,2,7]),([1,1,1,0,1,1,0,1,0,1,1],[14,0,4,2]),([0,1,1,1,1,0,1,1,0,1,0,1,1],[14,0,4,2,7]),([1,1,1,1,1,0,1,1,0,1,0,1,1],[14,0,4,2]),([1,1,1,1,1,1,0,1,1,0,1,0,1,1],[14,0,4,2]),([1,1,1,0,1,0,1,1],[0,4,2]),([0,1,1,1,0,1,0,1,1],[0,4,2]),([0,0,1,0,1,0,1,1],[2,3,0]),([1,0,1,0,1,0,1,1],[2,3,0]),([1,0,1,1],[0,4,2]),([0,1,1,1],[4,2,0]),([0,1,1,1,1],[2,3,0]),([1,1,1,1,1],[2,3,0])]
def z1to (N:Nat):Env:=z1d tys glob [(26,z2j N),(75,z2r N),(84,z15 N)] [] [] [0] false [] []
theorem z1rq (N:Nat):EnvOk Tryd.prog (z1to N):=zg mixed zn (FnsOk.cons (z34 N) (FnsOk.cons (z3v N) (FnsOk.cons (z1c N) (FnsOk.nil)))) (ItsOk.nil)
def z2q (N:Nat):PnT:=pnT [(75,40,z3p N),(84,40,z1w N),(37,40,zq N)]
theorem z84 (N:Nat):PnOk Tryd.prog glob (z2q N):=PnOk.cons (z7c N) (PnOk.cons (z2n N) (PnOk.cons (z12 N) (PnOk.nil)))
def z8z (N:Nat)(p:DT3)(set_:(List Int))(b:Int)(x7:Int)(k0:Bool->Option (Int×(Int×Unit))):Option (Int×(Int×Unit)) :=
 cond (x7 == (91:Int))
 (k0 (x7 == (91:Int)))
 (cond (x7 == (93:Int))
 (k0 (x7 == (93:Int)))
 (cond (x7 == (45:Int))
 (k0 (x7 == (45:Int)))
 (k0 (x7 == (94:Int)))))
def z1oa (N:Nat)(x:zw z1e3)(K:ExP->List A->Option (Int×(Int×Unit))):Option (Int×(Int×Unit)) :=
 z8z N x.1 x.2.1 x.2.2.1 x.2.2.2.1 (fun a3=>(K .normal (mkS SQ81 20 (x.1,x.2.1,x.2.2.1,a3,()))))
def z1ko (N:Nat):HdP (Int×(Int×Unit)):=fun st K=>(unS z1e3 27 (restr [7,0,4,2] 0 st)).bind fun x=>z1oa N x K
def t2_80 (N:Nat):zcp (Int×(Int×Unit)):=[]
theorem z1gk {N:Nat}{c:Ctx}(hb:Base Tryd.prog (z1to N) c)(hP:PnOk Tryd.prog glob (z2q N)):z22 Tryd.prog c (zf zpo z180) (z1ko N) :=
 z26 (s:=z1e3) (m:=27) (g:=z1oa N) [7,0,4,2] (z1n hb hP N (t2_80 N) L_80 zpo TabOkP.nil z180 _ rfl) (fun x K=>by kernel_rfl)
def z90 (N:Nat)(p:DT3)(set_:(List Int))(b:Int)(k0:(Int×(Int×Unit))->Option (Int×(Int×Unit)))(k1:DT3->(List Int)->Bool->Option (Int×(Int×Unit)))(k2:Option (Int×(Int×Unit))):Option (Int×(Int×Unit)) :=
 cond (b == (92:Int))
 (orP ((z3h N p)) (fun z=>k0 z)
 ((z2y N p).bind fun y =>
 k1 y.2.1 y.1.1 y.1.2.1))
 (z8z N p set_ b b
 (fun x14=>cond x14
 (k0 ((2:Int),(p.2.1,())))
 (k2)))
def z1p7 (N:Nat)(x:zw z17x)(K:ExP->List A->Option (Int×(Int×Unit))):Option (Int×(Int×Unit)) :=
 z90 N x.1 x.2.1 x.2.2.1 (fun a0=>(K (.pan 40) (mkS [(0,.v TT0)] 0 (a0,())))) (fun a0 a1 a2=>(K .ret (mkS SQ49 31 (a0,a1,a2,())))) (K .normal (mkS z17x 30 (x.1,x.2.1,x.2.2.1,())))
def z1ll (N:Nat):HdP (Int×(Int×Unit)):=fun st K=>(unS z17x 30 (restr [4,0,2] 0 st)).bind fun x=>z1p7 N x K
def t1_80 (N:Nat):zcp (Int×(Int×Unit)):=[(z180,z1ko N)]
theorem z1hh {N:Nat}{c:Ctx}(hb:Base Tryd.prog (z1to N) c)(hP:PnOk Tryd.prog glob (z2q N)):z22 Tryd.prog c (zf zpo [0,1,1]) (z1ll N) :=
 z26 (s:=z17x) (m:=30) (g:=z1p7 N) [4,0,2] (z1n hb hP N (t1_80 N) L_80 zpo (TabOkP.cons (z1gk hb hP) TabOkP.nil) [0,1,1] _ rfl) (fun x K=>by kernel_rfl)
def z44 (N:Nat)(p:DT3):Option (Int×(Int×Unit)) :=
 orP ((z24 N p)) (fun z=>some z)
 ((z1e N p).bind fun y =>
 z90 N y.2.1 ([(0:Int),(0:Int),(0:Int),(0:Int)]:List Int) y.1
 (fun p1=>some p1)
 (fun p2 set_ class_=>none)
 ((z29 N y.1 y.1).bind fun y1 =>
 none))
def t_80 (N:Nat):zcp (Int×(Int×Unit)):=[([0,1,1],z1ll N)]
theorem z19y (N:Nat)(x:zw SQ0):zi7 (z1to N) (z2q N) N (t_80 N) L_80 Tryd.f92 40 TT0 (mkS SQ0 0 x) (fun z=>some z)=z44 N x.1:=by kernel_rfl
def z83 (N:Nat):List A->PnRes:=zi6 SQ0 (fun x=>z44 N x.1) (fun z=>⟨TT0,z⟩)
theorem zfq (N:Nat):ContractP Tryd.prog glob 92 40 (z83 N) :=
 ContractP.of (E:=z1to N) (Pn:=z2q N) (H:=t_80 N) (L:=L_80) (N:=N) (body:=zpo) (t:=TT0) (z1rq N) (z84 N) Tryd.func92 (by kernel_rfl) (by decide) (fun _ hb=>(TabOkP.cons (z1hh hb (z84 N)) TabOkP.nil)) (fun x y h=>by rw[z19y];exact h)
def zh1:Code:=(Tryd.f82.body).getD .skip
def z1eb:List (List Nat×List Nat):=[([0],[0,2]),([0,1],[4,0,3,2]),([0,0,1,1],[17,3,2,0]),([1,0,1,1],[0,3,2]),([0,0,1,0,1,1],[2,0]),([1,0,1,0,1,1],[2,0]),([0,1,1,1],[0,3,5,2]),([0,1,1,1,1],[4,6,3,0,5,2]),(zms,[35,0,5,3,6,2]),(z11k,[3,6,2,0]),(z1da,[3,6,2,0]),(z116,[2,0]),(z17z,[2,0])]
def z1dh (N:Nat):Env:=z1d tys glob [(25,z4t N),(26,z2j N),(56,z1i N),(92,z6m N)] [] [] [0] false [] []
theorem z1rp (N:Nat):EnvOk Tryd.prog (z1dh N):=zg mixed zn (FnsOk.cons (z8h N) (FnsOk.cons (z34 N) (FnsOk.cons (z1y N) (FnsOk.cons (zc1 N) (FnsOk.nil))))) (ItsOk.nil)
def z1t (N:Nat):PnT:=pnT [(92,40,z83 N),(37,40,zq N)]
theorem z4b (N:Nat):PnOk Tryd.prog glob (z1t N):=PnOk.cons (zfq N) (PnOk.cons (z12 N) (PnOk.nil))
def z96 (N:Nat)(p:DT3)(x2:(List Int))(first:(List Int))(class_:Bool)(k0:DT3->Bool->Option (Int×(Int×Unit))):Option (Int×(Int×Unit)) :=
 cond class_
 (k0 p true)
 ((z16 N p (45:Int)).bind fun y =>
 k0 y.2.1 (!y.1))
def z1o9 (N:Nat)(x:zw SQ7)(K:ExP->List A->Option (Int×(Int×Unit))):Option (Int×(Int×Unit)) :=
 z96 N x.1 x.2.1 x.2.2.1 x.2.2.2.1 (fun a0 a3=>(K .normal (mkS SQ69 28 (a0,x.2.1,x.2.2.1,a3,()))))
def z1kn (N:Nat):HdP (Int×(Int×Unit)):=fun st K=>(unS SQ7 41 (restr [4,0,3,2] 0 st)).bind fun x=>z1o9 N x K
def t2_81 (N:Nat):zcp (Int×(Int×Unit)):=[]
theorem z1gj {N:Nat}{c:Ctx}(hb:Base Tryd.prog (z1dh N) c)(hP:PnOk Tryd.prog glob (z1t N)):z22 Tryd.prog c (zf zh1 [0,0,1,1]) (z1kn N) :=
 z26 (s:=SQ7) (m:=41) (g:=z1o9 N) [4,0,3,2] (z1n hb hP N (t2_81 N) z1eb zh1 TabOkP.nil [0,0,1,1] _ rfl) (fun x K=>by kernel_rfl)
def z97 (N:Nat)(p:DT3)(x2:(List Int))(first:(List Int))(class_:Bool)(k0:DT3->Option (Int×(Int×Unit)))(k1:DT3->Option (Int×(Int×Unit))):Option (Int×(Int×Unit)) :=
 z96 N p x2 first class_
 (fun p1 x17=>cond x17
 (k0 p1)
 (k1 p1))
def z1p6 (N:Nat)(x:zw SQ7)(K:ExP->List A->Option (Int×(Int×Unit))):Option (Int×(Int×Unit)) :=
 z97 N x.1 x.2.1 x.2.2.1 x.2.2.2.1 (fun a0=>(K .ret (mkS [(0,.box (.pair .str TT0)),(1,.box (.arr 4 (.int .u64)))] 43 (a0,x.2.2.1,())))) (fun a0=>(K .normal (mkS SQ83 42 (a0,x.2.1,x.2.2.1,()))))
def z1lk (N:Nat):HdP (Int×(Int×Unit)):=fun st K=>(unS SQ7 41 (restr [4,0,3,2] 0 st)).bind fun x=>z1p6 N x K
def t1_81 (N:Nat):zcp (Int×(Int×Unit)):=[([0,0,1,1],z1kn N)]
theorem z1hg {N:Nat}{c:Ctx}(hb:Base Tryd.prog (z1dh N) c)(hP:PnOk Tryd.prog glob (z1t N)):z22 Tryd.prog c (zf zh1 [0,1,1]) (z1lk N) :=
 z26 (s:=SQ7) (m:=41) (g:=z1p6 N) [4,0,3,2] (z1n hb hP N (t1_81 N) z1eb zh1 (TabOkP.cons (z1gj hb hP) TabOkP.nil) [0,1,1] _ rfl) (fun x K=>by kernel_rfl)
def z94 (N:Nat)(p:DT3)(x2:(List Int))(first:(List Int))(class_:Bool)(from_:Int)(last:(List Int))(k0:Bool->Option (Int×(Int×Unit))):Option (Int×(Int×Unit)) :=
 cond class_
 (k0 true)
 ((z1l N last).bind fun y =>
 (z1l N first).bind fun y1 =>
 k0 (decide (y<y1)))
def z1ni (N:Nat)(x:zw SQ4)(K:ExP->List A->Option (Int×(Int×Unit))):Option (Int×(Int×Unit)) :=
 z94 N x.1 x.2.1 x.2.2.1 x.2.2.2.1 x.2.2.2.2.1 x.2.2.2.2.2.1 (fun a5=>(K .normal (mkS SQ44 10 (x.1,x.2.1,x.2.2.1,x.2.2.2.2.1,x.2.2.2.2.2.1,a5,()))))
def z1jw (N:Nat):HdP (Int×(Int×Unit)):=fun st K=>(unS SQ4 39 (restr [4,6,3,0,5,2] 0 st)).bind fun x=>z1ni N x K
def t4_81 (N:Nat):zcp (Int×(Int×Unit)):=[]
theorem z1fs {N:Nat}{c:Ctx}(hb:Base Tryd.prog (z1dh N) c)(hP:PnOk Tryd.prog glob (z1t N)):z22 Tryd.prog c (zf zh1 zms) (z1jw N) :=
 z26 (s:=SQ4) (m:=39) (g:=z1ni N) [4,6,3,0,5,2] (z1n hb hP N (t4_81 N) z1eb zh1 TabOkP.nil zms _ rfl) (fun x K=>by kernel_rfl)
def z95 (N:Nat)(p:DT3)(x2:(List Int))(first:(List Int))(class_:Bool)(from_:Int)(last:(List Int))(k0:(Int×(Int×Unit))->Option (Int×(Int×Unit)))(k1:Option (Int×(Int×Unit))):Option (Int×(Int×Unit)) :=
 z94 N p x2 first class_ from_ last
 (fun x35=>cond x35
 (k0 ((2:Int),(from_,())))
 (k1))
def z1ns (N:Nat)(x:zw SQ4)(K:ExP->List A->Option (Int×(Int×Unit))):Option (Int×(Int×Unit)) :=
 z95 N x.1 x.2.1 x.2.2.1 x.2.2.2.1 x.2.2.2.2.1 x.2.2.2.2.2.1 (fun a0=>(K (.pan 40) (mkS [(0,.v TT0)] 0 (a0,())))) (K .normal (mkS SQ59 39 (x.1,x.2.1,x.2.2.1,x.2.2.2.2.2.1,())))
def z1k6 (N:Nat):HdP (Int×(Int×Unit)):=fun st K=>(unS SQ4 39 (restr [4,6,3,0,5,2] 0 st)).bind fun x=>z1ns N x K
def t3_81 (N:Nat):zcp (Int×(Int×Unit)):=[(zms,z1jw N)]
theorem z1g2 {N:Nat}{c:Ctx}(hb:Base Tryd.prog (z1dh N) c)(hP:PnOk Tryd.prog glob (z1t N)):z22 Tryd.prog c (zf zh1 [0,1,1,1,1,1]) (z1k6 N) :=
 z26 (s:=SQ4) (m:=39) (g:=z1ns N) [4,6,3,0,5,2] (z1n hb hP N (t3_81 N) z1eb zh1 (TabOkP.cons (z1fs hb hP) TabOkP.nil) [0,1,1,1,1,1] _ rfl) (fun x K=>by kernel_rfl)
def z45 (N:Nat)(p:DT3):Option (Int×(Int×Unit)) :=
 orP ((z44 N p)) (fun z=>some z)
 ((z3k N p).bind fun y =>
 z97 N y.2.1 ([(0:Int),(0:Int),(0:Int),(0:Int)]:List Int) y.1.1 y.1.2.1
 (fun p1=>none)
 (fun p2=>orP ((z44 N p2)) (fun z1=>some z1)
 ((z3k N p2).bind fun y1 =>
 z95 N y1.2.1 ([(0:Int),(0:Int),(0:Int),(0:Int)]:List Int) y.1.1 y1.1.2.1 p2.2.1 y1.1.1
 (fun p3=>some p3)
 ((z1l N y.1.1).bind fun y2 =>
 (z1l N y1.1.1).bind fun y3 =>
 (z29 N (IntKind.wrap IntKind.u8 y2) (IntKind.wrap IntKind.u8 y3)).bind fun y4 =>
 none))))
def t_81 (N:Nat):zcp (Int×(Int×Unit)):=[([0,1,1],z1lk N),([0,1,1,1,1,1],z1k6 N)]
theorem z19x (N:Nat)(x:zw SQ0):zi7 (z1dh N) (z1t N) N (t_81 N) z1eb Tryd.f82 40 TT0 (mkS SQ0 0 x) (fun z=>some z)=z45 N x.1:=by kernel_rfl
def z88 (N:Nat):List A->PnRes:=zi6 SQ0 (fun x=>z45 N x.1) (fun z=>⟨TT0,z⟩)
theorem zfr (N:Nat):ContractP Tryd.prog glob 82 40 (z88 N) :=
 ContractP.of (E:=z1dh N) (Pn:=z1t N) (H:=t_81 N) (L:=z1eb) (N:=N) (body:=zh1) (t:=TT0) (z1rp N) (z4b N) Tryd.func82 (by kernel_rfl) (by decide) (fun _ hb=>(TabOkP.cons (z1hg hb (z4b N)) (TabOkP.cons (z1g2 hb (z4b N)) TabOkP.nil))) (fun x y h=>by rw[z19x];exact h)
def zx6:Code:=(Tryd.f74.body).getD .skip
def L_82:List (List Nat×List Nat):=[([0],[0,2]),([0,1],[0,2]),([0,1,1],[0,3,2]),([0,1,1,1],[0,4,3,2]),([0,0,1,1,1,1],[0,4,3,2]),([0,0,0,0,0,1,1,1,1],[13,4,0,3,2]),([1,0,0,0,0,1,1,1,1],[4,0,3,2]),(z16r,[3,4,2,0]),([0,1,0,0,0,1,1,1,1],[0,4,3,2]),([1,0,0,0,1,1,1,1],[0,4,3,2]),([0,1,1,1,1],[3,4,2,0]),(zms,[18,4,2,0]),(z11k,[4,2,0]),(z1r4,[2,0]),(z14s,[2,0]),(z116,[2,0]),(z17z,[2,0])]
def E_82 (N:Nat):Env:=z1d tys glob [(56,z1i N),(64,zac N),(77,z1j N),(82,z6n N),(83,zfd N)] [] [] [0] false [] []
theorem z1ro (N:Nat):EnvOk Tryd.prog (E_82 N):=zg mixed zn (FnsOk.cons (z1y N) (FnsOk.cons (zfe N) (FnsOk.cons (z1z N) (FnsOk.cons (zc8 N) (FnsOk.cons (zll N) (FnsOk.nil)))))) (ItsOk.nil)
def z2s (N:Nat):PnT:=pnT [(82,40,z88 N),(77,40,z2d N)]
theorem z5n (N:Nat):PnOk Tryd.prog glob (z2s N):=PnOk.cons (zfr N) (PnOk.cons (z38 N) (PnOk.nil))
def z66 (N:Nat)(x2:(List Int))(not_:Bool)(p:DT3)(set_:(List Int))(rec:DT3->(List Int)->Option (Int×(Int×Unit)))(k0:(Int×(Int×Unit))->Option (Int×(Int×Unit)))(k1:DT3->(List Int)->Option (Int×(Int×Unit))):Option (Int×(Int×Unit)) :=
 (z16 N p (93:Int)).bind fun y =>
 cond (!y.1)
 (orP ((z45 N y.2.1)) (fun z=>k0 z)
 ((z3l N y.2.1).bind fun y1 =>
 (zj5 N set_ y1.1).bind fun y2 =>
 rec y1.2.1 y2))
 (k1 y.2.1 set_)
def zcr (N:Nat)(p:DT3)(x2:(List Int))(not_:Bool)(set_:(List Int))(k0:(Int×(Int×Unit))->Option (Int×(Int×Unit)))(k1:DT3->(List Int)->Option (Int×(Int×Unit))):Option (Int×(Int×Unit)) :=
 iter (fun (v:(DT3×(List Int))) r=>z66 N x2 not_ v.1 v.2 (fun p set_=>(r (p,set_))) k0 k1) N (p,set_)
def z1p5 (N:Nat)(i:((List Int)×Bool))(v:(DT3×(List Int)))(r:(DT3×(List Int))->Option (Int×(Int×Unit)))(K:ExP->List A->Option (Int×(Int×Unit))):Option (Int×(Int×Unit)) :=
 z66 N i.1 i.2 v.1 v.2 (fun p set_=>(r (p,set_))) (fun a0=>(K (.pan 40) (mkS [(0,.v TT0)] 0 (a0,())))) (fun a0 a3=>(K (.exit 0) (mkS z1e5 17 (a0,i.1,i.2,a3,()))))
def z1lj (N:Nat):HdP (Int×(Int×Unit)):=fun st K=>(unS z1e5 17 (restr [0,4,3,2] 0 st)).bind fun x=>iter (fun v r=>z1p5 N ((fun x=>(x.2.1,x.2.2.1)) x) v r K) N ((fun x=>(x.1,x.2.2.2.1)) x)
def t1_82 (N:Nat):zcp (Int×(Int×Unit)):=[]
theorem z1hf {N:Nat}{c:Ctx}(hb:Base Tryd.prog (E_82 N) c)(hP:PnOk Tryd.prog glob (z2s N)):z22 Tryd.prog c (zf zx6 [0,0,1,1,1,1]) (z1lj N) :=
 znt (s:=z1e5) (m:=17) (z1p5 N) [0,4,3,2] N (fun x=>(x.2.1,x.2.2.1)) (fun x=>(x.1,x.2.2.2.1)) (fun i v=>(v.1,i.1,i.2,v.2,())) (fun _=>rfl) (z1n hb hP N (t1_82 N) L_82 zx6 TabOkP.nil [0,0,0,1,1,1,1] _ rfl) (fun i v r K=>by kernel_rfl)
def z4d (N:Nat)(p:DT3):Option (Int×(Int×Unit)) :=
 orP ((z25 N p (91:Int))) (fun z=>some z)
 ((z1f N p (91:Int)).bind fun y =>
 (z16 N y.2.1 (94:Int)).bind fun y1 =>
 orP ((z45 N y1.2.1)) (fun z1=>some z1)
 ((z3l N y1.2.1).bind fun y2 =>
 zcr N y2.2.1 ([(0:Int),(0:Int),(0:Int),(0:Int)]:List Int) y1.1 y2.1
 (fun p1=>some p1)
 (fun p2 set_=>cond y1.1
 ((zek N set_).bind fun y3 =>
 none)
 (none))))
def t_82 (N:Nat):zcp (Int×(Int×Unit)):=[([0,0,1,1,1,1],z1lj N)]
theorem z19w (N:Nat)(x:zw SQ0):zi7 (E_82 N) (z2s N) N (t_82 N) L_82 Tryd.f74 40 TT0 (mkS SQ0 0 x) (fun z=>some z)=z4d N x.1:=by kernel_rfl
def z5m (N:Nat):List A->PnRes:=zi6 SQ0 (fun x=>z4d N x.1) (fun z=>⟨TT0,z⟩)
theorem zcs (N:Nat):ContractP Tryd.prog glob 74 40 (z5m N) :=
 ContractP.of (E:=E_82 N) (Pn:=z2s N) (H:=t_82 N) (L:=L_82) (N:=N) (body:=zx6) (t:=TT0) (z1ro N) (z5n N) Tryd.func74 (by kernel_rfl) (by decide) (fun _ hb=>(TabOkP.cons (z1hf hb (z5n N)) TabOkP.nil)) (fun x y h=>by rw[z19w];exact h)
def zpn:Code:=(Tryd.f70.body).getD .skip
def L_83:List (List Nat×List Nat):=[([0],[0]),([0,1],[0,4]),([0,1,1],[2,0,4]),([0,1,1,1],[0,2,3,4]),([0,0,1,1,1,1],[13,0,2,3,4]),([1,0,1,1,1,1],[3,2,0,4]),([0,0,0,1,0,1,1,1,1],[15,2,0]),([1,0,0,1,0,1,1,1,1],[0,2]),([0,0,1,0,0,1,0,1,1,1,1],[2,3,0]),([1,0,1,0,0,1,0,1,1,1,1],[2,3,0]),([0,1,0,1,0,1,1,1,1],[0,2,4]),([1,1,0,1,0,1,1,1,1],[3,2,0,4]),(zms,[26,0,4,2,3]),(z11k,[0,2,3]),(z1da,[0,2,3]),(z116,[2,3,0]),(z182,[2,3,0]),(z181,[2,3,0])]
def z1tn (N:Nat):Env:=z1d tys glob [(56,z1i N),(76,z7i N),(77,z1j N)] [] [] [0] false [] []
theorem z1rn (N:Nat):EnvOk Tryd.prog (z1tn N):=zg mixed zn (FnsOk.cons (z1y N) (FnsOk.cons (zdo N) (FnsOk.cons (z1z N) (FnsOk.nil)))) (ItsOk.nil)
def z2e (N:Nat):PnT:=pnT [(76,40,z91 N),(77,40,z2d N),(37,40,zq N)]
theorem z3q (N:Nat):PnOk Tryd.prog glob (z2e N):=PnOk.cons (zgh N) (PnOk.cons (z38 N) (PnOk.cons (z12 N) (PnOk.nil)))
def z7e (N:Nat)(p:DT3)(low:Int)(high:Int)(from_:Int)(k0:DT3->Int->Option (Int×(Int×Unit)))(k1:(Int×(Int×Unit))->Option (Int×(Int×Unit)))(k2:DT3->Int->Int->Option (Int×(Int×Unit))):Option (Int×(Int×Unit)) :=
 (z16 N p (44:Int)).bind fun y =>
 cond y.1
 ((z16 N y.2.1 (125:Int)).bind fun y1 =>
 cond y1.1
 (k0 y1.2.1 (-(1:Int)))
 (orP ((z4g N y1.2.1)) (fun z=>k1 z)
 ((z40 N y1.2.1).bind fun y2 =>
 k2 y2.2.1 y2.1 y1.2.1.2.1)))
 (k2 y.2.1 high from_)
def z1p4 (N:Nat)(x:zw SQ8)(K:ExP->List A->Option (Int×(Int×Unit))):Option (Int×(Int×Unit)) :=
 z7e N x.1 x.2.1 x.2.2.1 x.2.2.2.1 (fun a0 a2=>(K .ret (mkS SQ55 30 (a0,x.2.1,a2,())))) (fun a0=>(K (.pan 40) (mkS [(0,.v TT0)] 0 (a0,())))) (fun a0 a2 a3=>(K .normal (mkS SQ8 29 (a0,x.2.1,a2,a3,()))))
def z1li (N:Nat):HdP (Int×(Int×Unit)):=fun st K=>(unS SQ8 29 (restr [0,2,3,4] 0 st)).bind fun x=>z1p4 N x K
def t1_83 (N:Nat):zcp (Int×(Int×Unit)):=[]
theorem z1he {N:Nat}{c:Ctx}(hb:Base Tryd.prog (z1tn N) c)(hP:PnOk Tryd.prog glob (z2e N)):z22 Tryd.prog c (zf zpn [0,1,1,1,1]) (z1li N) :=
 z26 (s:=SQ8) (m:=29) (g:=z1p4 N) [0,2,3,4] (z1n hb hP N (t1_83 N) L_83 zpn TabOkP.nil [0,1,1,1,1] _ rfl) (fun x K=>by kernel_rfl)
def z7d (N:Nat)(p:DT3)(low:Int)(high:Int)(from_:Int)(k0:(Int×(Int×Unit))->Option (Int×(Int×Unit)))(k1:Option (Int×(Int×Unit))):Option (Int×(Int×Unit)) :=
 cond (decide (high<(if ((1:Int) > low) then (1:Int) else low)))
 (k0 ((2:Int),(from_,())))
 (k1)
def z1o8 (N:Nat)(x:zw SQ8)(K:ExP->List A->Option (Int×(Int×Unit))):Option (Int×(Int×Unit)) :=
 z7d N x.1 x.2.1 x.2.2.1 x.2.2.2.1 (fun a0=>(K (.pan 40) (mkS [(0,.v TT0)] 0 (a0,())))) (K .normal (mkS SQ55 30 (x.1,x.2.1,x.2.2.1,())))
def z1km (N:Nat):HdP (Int×(Int×Unit)):=fun st K=>(unS SQ8 29 (restr [3,2,0,4] 0 st)).bind fun x=>z1o8 N x K
def t2_83 (N:Nat):zcp (Int×(Int×Unit)):=[]
theorem z1gi {N:Nat}{c:Ctx}(hb:Base Tryd.prog (z1tn N) c)(hP:PnOk Tryd.prog glob (z2e N)):z22 Tryd.prog c (zf zpn [0,1,1,1,1,1]) (z1km N) :=
 z26 (s:=SQ8) (m:=29) (g:=z1o8 N) [3,2,0,4] (z1n hb hP N (t2_83 N) L_83 zpn TabOkP.nil [0,1,1,1,1,1] _ rfl) (fun x K=>by kernel_rfl)
def z59 (N:Nat)(p:DT3):Option (Int×(Int×Unit)) :=
 orP ((z4g N p)) (fun z=>some z)
 ((z40 N p).bind fun y =>
 z7e N y.2.1 y.1 y.1 p.2.1
 (fun p1 high=>none)
 (fun p2=>some p2)
 (fun p3 high1 from_=>z7d N p3 y.1 high1 from_
 (fun p4=>some p4)
 (orP ((z25 N p3 (125:Int))) (fun z1=>some z1)
 ((z1f N p3 (125:Int)).bind fun y1 =>
 none))))
def t_83 (N:Nat):zcp (Int×(Int×Unit)):=[([0,1,1,1,1],z1li N),([0,1,1,1,1,1],z1km N)]
theorem z19v (N:Nat)(x:zw SQ0):zi7 (z1tn N) (z2e N) N (t_83 N) L_83 Tryd.f70 40 TT0 (mkS SQ0 0 x) (fun z=>some z)=z59 N x.1:=by kernel_rfl
def z6p (N:Nat):List A->PnRes:=zi6 SQ0 (fun x=>z59 N x.1) (fun z=>⟨TT0,z⟩)
theorem zen (N:Nat):ContractP Tryd.prog glob 70 40 (z6p N) :=
 ContractP.of (E:=z1tn N) (Pn:=z2e N) (H:=t_83 N) (L:=L_83) (N:=N) (body:=zpn) (t:=TT0) (z1rn N) (z3q N) Tryd.func70 (by kernel_rfl) (by decide) (fun _ hb=>(TabOkP.cons (z1he hb (z3q N)) (TabOkP.cons (z1gi hb (z3q N)) TabOkP.nil))) (fun x y h=>by rw[z19v];exact h)
abbrev z7:Type:=DT3->Option (Int×(Int×Unit))
def zx5:Code:=(Tryd.f72.body).getD .skip
def L_84:List (List Nat×List Nat):=[([0],[0,2]),([0,0,1],[8,0,2]),([1,0,1],[0,2]),([0,1,0,1],[0,2]),([0,1,1],[0,2]),([0,1,1,1],[0,2]),([0,1,1,1,1],[0,3,2]),([0,1,1,1,1,1],[0,3,2]),(z116,[3,2,0]),(z182,[2,0]),(z181,[2,0])]
def E_84 (N:Nat)(self:z7):Env:=z1d tys glob [(36,zcb N),(77,z1j N)] [] [] [0] false [] []
theorem z1rm (N:Nat)(self:z7):EnvOk Tryd.prog (E_84 N self):=zg mixed zn (FnsOk.cons (z2l N) (FnsOk.cons (z1z N) (FnsOk.nil))) (ItsOk.nil)
def z39 (N:Nat)(self:z7):PnT:=pnT [(77,40,z2d N),(37,40,zq N),(36,40,zi6 SQ0 (fun x=>self x.1) (fun z=>⟨TT0,z⟩))]
theorem z7a (N:Nat)(self:z7)(hself:ContractP Tryd.prog glob 36 40 (zi6 SQ0 (fun x=>self x.1) (fun z=>⟨TT0,z⟩))):PnOk Tryd.prog glob (z39 N self):=PnOk.cons (z38 N) (PnOk.cons (z12 N) (PnOk.cons (hself) (PnOk.nil)))
def z89 (N:Nat)(self:z7)(p:DT3)(x2:DT2)(k0:(Int×(Int×Unit))->Option (Int×(Int×Unit)))(k1:Option (Int×(Int×Unit))):Option (Int×(Int×Unit)) :=
 cond (p.2.2.1 == (16:Int))
 (k0 ((3:Int),(p.2.1,())))
 (k1)
def z1p3 (N:Nat)(self:z7)(x:zw z17u)(K:ExP->List A->Option (Int×(Int×Unit))):Option (Int×(Int×Unit)) :=
 z89 N self x.1 x.2.1 (fun a0=>(K (.pan 40) (mkS [(0,.v TT0)] 0 (a0,())))) (K .normal (mkS z17u 33 (x.1,x.2.1,())))
def z1lh (N:Nat)(self:z7):HdP (Int×(Int×Unit)):=fun st K=>(unS z17u 33 (restr [0,2] 0 st)).bind fun x=>z1p3 N self x K
def t1_84 (N:Nat)(self:z7):zcp (Int×(Int×Unit)):=[]
theorem z1hd {N:Nat}{self:z7}{c:Ctx}(hb:Base Tryd.prog (E_84 N self) c)(hP:PnOk Tryd.prog glob (z39 N self)):z22 Tryd.prog c (zf zx5 [0,1]) (z1lh N self) :=
 z26 (s:=z17u) (m:=33) (g:=z1p3 N self) [0,2] (z1n hb hP N (t1_84 N self) L_84 zx5 TabOkP.nil [0,1] _ rfl) (fun x K=>by kernel_rfl)
def z61 (N:Nat)(self:z7)(p:DT3):Option (Int×(Int×Unit)) :=
 z89 N self p ((0:Int),(([(0:Int),(0:Int),(0:Int),(0:Int)]:List Int),(([]:List Tree),((0:Int),((0:Int),())))))
 (fun p1=>some p1)
 (orP ((z25 N (p.1,(p.2.1,((IntKind.wrap IntKind.i64 (p.2.2.1+(1:Int))),p.2.2.2))) (40:Int))) (fun z=>some z)
 ((z1f N (p.1,(p.2.1,((IntKind.wrap IntKind.i64 (p.2.2.1+(1:Int))),p.2.2.2))) (40:Int)).bind fun y =>
 orP ((self y.2.1)) (fun z1=>some z1)
 ((zo N y.2.1).bind fun y1 =>
 orP ((z25 N y1.2.1 (41:Int))) (fun z2=>some z2)
 ((z1f N y1.2.1 (41:Int)).bind fun y2 =>
 none))))
def t_84 (N:Nat)(self:z7):zcp (Int×(Int×Unit)):=[([0,1],z1lh N self)]
theorem z19u (N:Nat)(self:z7)(x:zw SQ0):zi7 (E_84 N self) (z39 N self) N (t_84 N self) L_84 Tryd.f72 40 TT0 (mkS SQ0 0 x) (fun z=>some z)=z61 N self x.1:=by kernel_rfl
def z79 (N:Nat)(self:z7):List A->PnRes:=zi6 SQ0 (fun x=>z61 N self x.1) (fun z=>⟨TT0,z⟩)
theorem zf9 (N:Nat)(self:z7)(hself:ContractP Tryd.prog glob 36 40 (zi6 SQ0 (fun x=>self x.1) (fun z=>⟨TT0,z⟩))):ContractP Tryd.prog glob 72 40 (z79 N self) :=
 ContractP.of (E:=E_84 N self) (Pn:=z39 N self) (H:=t_84 N self) (L:=L_84) (N:=N) (body:=zx5) (t:=TT0) (z1rm N self) (z7a N self hself) Tryd.func72 (by kernel_rfl) (by decide) (fun _ hb=>(TabOkP.cons (z1hd hb (z7a N self hself)) TabOkP.nil)) (fun x y h=>by rw[z19u];exact h)
def zx4:Code:=(Tryd.f69.body).getD .skip
def L_85:List (List Nat×List Nat):=[([0],[0,2]),([0,1],[3,0,2]),([0,1,1],[15,0,2,3]),([0,0,1,1,1],[36,0,2,15,3]),([1,0,1,1,1],[2,0]),([0,1,1,0,1,1,1],[40,0,2,15,3]),([1,1,1,0,1,1,1],[2,0]),([0,1,1,1,1,0,1,1,1],[51,0,2,15,3]),([1,1,1,1,1,0,1,1,1],[2,0]),([0,1,1,1,1,1,1,0,1,1,1],[56,0,2,3]),([1,1,1,1,1,1,1,0,1,1,1],[2,0]),([0,0,1,1,1,1,1,1,1,1,0,1,1,1],[18,0,3,2]),([1,0,1,1,1,1,1,1,1,1,0,1,1,1],[0,3,2]),([0,1,0,1,1,1,1,1,1,1,1,0,1,1,1],[0,3,2]),([0,1,1,1,1,1,1,1,1,1,0,1,1,1],[3,2,0]),([0,1,1,1,1,1,1,1,1,1,1,0,1,1,1],[2,0]),([1,1,1,1,1,1,1,1,1,1,1,0,1,1,1],[2,0]),([0,0,1,1,1,1,1,1,1,0,1,1,1],[4,2,0]),([0,1,0,1,1,1,1,1,1,1,0,1,1,1],[2,0]),([1,1,0,1,1,1,1,1,1,1,0,1,1,1],[2,0]),([0,0,1,1,1,1,1,0,1,1,1],[2,0]),([1,0,1,1,1,1,1,0,1,1,1],[2,0]),([0,0,1,1,1,0,1,1,1],[2,0]),([0,1,0,1,1,1,0,1,1,1],[2,0]),([1,1,0,1,1,1,0,1,1,1],[2,0]),(z115,[2,0]),(z14m,[2,0]),([1,1,1],[2,0])]
def E_85 (N:Nat)(self:z7):Env:=z1d tys glob [(26,z2j N),(54,z2m N),(72,z60 N (zo N)),(73,zgm N),(74,z4c N),(75,z2r N)] [] [] [0] false [] []
theorem z1rl (N:Nat)(self:z7):EnvOk Tryd.prog (E_85 N self):=zg mixed zn (FnsOk.cons (z34 N) (FnsOk.cons (z3c N) (FnsOk.cons (zb9 N (zo N) (z2l N)) (FnsOk.cons (zmy N) (FnsOk.cons (z9d N) (FnsOk.cons (z3v N) (FnsOk.nil))))))) (ItsOk.nil)
def z3i (N:Nat)(self:z7):PnT:=pnT [(72,40,z79 N self),(74,40,z5m N),(75,40,z3p N),(37,40,zq N),(36,40,zi6 SQ0 (fun x=>self x.1) (fun z=>⟨TT0,z⟩))]
theorem z8b (N:Nat)(self:z7)(hself:ContractP Tryd.prog glob 36 40 (zi6 SQ0 (fun x=>self x.1) (fun z=>⟨TT0,z⟩))):PnOk Tryd.prog glob (z3i N self):=PnOk.cons (zf9 N self hself) (PnOk.cons (zcs N) (PnOk.cons (z7c N) (PnOk.cons (z12 N) (PnOk.cons (hself) (PnOk.nil)))))
def z9e (N:Nat)(self:z7)(p:DT3)(x2:DT2)(b:Int)(k0:(Int×(Int×Unit))->Option (Int×(Int×Unit)))(k1:Option (Int×(Int×Unit))):Option (Int×(Int×Unit)) :=
 cond (decide ((0:Int)<=(Go.Lib.indexByte ([(92:UInt8),(46:UInt8),(91:UInt8),(93:UInt8),(40:UInt8),(41:UInt8),(123:UInt8),(125:UInt8),(124:UInt8),(42:UInt8),(43:UInt8),(63:UInt8)]:List UInt8) (Nat.toUInt8 (Int.toNat b)))))
 (k0 ((2:Int),(p.2.1,())))
 (k1)
def z1p2 (N:Nat)(self:z7)(x:zw z17w)(K:ExP->List A->Option (Int×(Int×Unit))):Option (Int×(Int×Unit)) :=
 z9e N self x.1 x.2.1 x.2.2.1 (fun a0=>(K (.pan 40) (mkS [(0,.v TT0)] 0 (a0,())))) (K .normal (mkS z17w 61 (x.1,x.2.1,x.2.2.1,())))
def z1lg (N:Nat)(self:z7):HdP (Int×(Int×Unit)):=fun st K=>(unS z17w 61 (restr [3,0,2] 0 st)).bind fun x=>z1p2 N self x K
def t1_85 (N:Nat)(self:z7):zcp (Int×(Int×Unit)):=[]
theorem z1hc {N:Nat}{self:z7}{c:Ctx}(hb:Base Tryd.prog (E_85 N self) c)(hP:PnOk Tryd.prog glob (z3i N self)):z22 Tryd.prog c (zf zx4 z1ea) (z1lg N self) :=
 z26 (s:=z17w) (m:=61) (g:=z1p2 N self) [3,0,2] (z1n hb hP N (t1_85 N self) L_85 zx4 TabOkP.nil z1ea _ rfl) (fun x K=>by kernel_rfl)
def z6r (N:Nat)(self:z7)(p:DT3):Option (Int×(Int×Unit)) :=
 cond (inR p.2.1 (List.length p.1))
 (cond ((((UInt8.toNat (List.getD p.1 (Int.toNat p.2.1) (0:UInt8))):Nat):Int) == (40:Int))
 (orP ((z61 N self p)) (fun z=>some z)
 ((z65 N (zo N) p).bind fun y =>
 none))
 (cond ((((UInt8.toNat (List.getD p.1 (Int.toNat p.2.1) (0:UInt8))):Nat):Int) == (46:Int))
 ((z29 N (0:Int) (255:Int)).bind fun y1 =>
 none)
 (cond ((((UInt8.toNat (List.getD p.1 (Int.toNat p.2.1) (0:UInt8))):Nat):Int) == (91:Int))
 (orP ((z4d N p)) (fun z1=>some z1)
 ((z46 N p).bind fun y2 =>
 none))
 (cond ((((UInt8.toNat (List.getD p.1 (Int.toNat p.2.1) (0:UInt8))):Nat):Int) == (92:Int))
 (orP ((z3h N p)) (fun z2=>some z2)
 ((z2y N p).bind fun y3 =>
 none))
 (z9e N self p ((0:Int),(([(0:Int),(0:Int),(0:Int),(0:Int)]:List Int),(([]:List Tree),((0:Int),((0:Int),()))))) (((UInt8.toNat (List.getD p.1 (Int.toNat p.2.1) (0:UInt8))):Nat):Int)
 (fun p1=>some p1)
 ((z29 N (((UInt8.toNat (List.getD p.1 (Int.toNat p.2.1) (0:UInt8))):Nat):Int) (((UInt8.toNat (List.getD p.1 (Int.toNat p.2.1) (0:UInt8))):Nat):Int)).bind fun y4 =>
 none))))))
 (none)
def t_85 (N:Nat)(self:z7):zcp (Int×(Int×Unit)):=[(z1ea,z1lg N self)]
theorem z19t (N:Nat)(self:z7)(x:zw SQ0):zi7 (E_85 N self) (z3i N self) N (t_85 N self) L_85 Tryd.f69 40 TT0 (mkS SQ0 0 x) (fun z=>some z)=z6r N self x.1:=by kernel_rfl
def z8a (N:Nat)(self:z7):List A->PnRes:=zi6 SQ0 (fun x=>z6r N self x.1) (fun z=>⟨TT0,z⟩)
theorem zft (N:Nat)(self:z7)(hself:ContractP Tryd.prog glob 36 40 (zi6 SQ0 (fun x=>self x.1) (fun z=>⟨TT0,z⟩))):ContractP Tryd.prog glob 69 40 (z8a N self) :=
 ContractP.of (E:=E_85 N self) (Pn:=z3i N self) (H:=t_85 N self) (L:=L_85) (N:=N) (body:=zx4) (t:=TT0) (z1rl N self) (z8b N self hself) Tryd.func69 (by kernel_rfl) (by decide) (fun _ hb=>(TabOkP.cons (z1hc hb (z8b N self hself)) TabOkP.nil)) (fun x y h=>by rw[z19t];exact h)
def zx3:Code:=(Tryd.f66.body).getD .skip
def L_86:List (List Nat×List Nat):=[([0],[0,2]),([0,1],[0,3,2]),([0,0,1,1],[16,3,2,0]),([1,0,1,1],[3,0,2]),([0,0,1,0,1,1],[2,0]),([1,0,1,0,1,1],[2,0]),([0,1,1,1],[0,4,2,3]),([0,0,1,1,1,1],[29,4,0,2,3]),([0,0,0,0,0,0,0,0,0,0,0,0,0,0,1,0,1,1,1,1],[30,4,0,2,29,3]),([1,0,0,0,0,0,0,0,0,0,0,0,0,0,1,0,1,1,1,1],[29,0,4,2,3]),([0,1,0,0,0,0,0,0,0,0,0,0,0,0,0,1,0,1,1,1,1],[4,0,2]),([0,0,1,0,0,0,0,0,0,0,0,0,0,0,0,1,0,1,1,1,1],[32,0,4,2,29,3]),([1,0,1,0,0,0,0,0,0,0,0,0,0,0,0,1,0,1,1,1,1],[29,0,4,2,3]),([0,1,0,1,0,0,0,0,0,0,0,0,0,0,0,0,1,0,1,1,1,1],[0,4,2]),([0,0,1,1,0,0,0,0,0,0,0,0,0,0,0,0,1,0,1,1,1,1],[34,0,4,2,29,3]),([1,0,1,1,0,0,0,0,0,0,0,0,0,0,0,0,1,0,1,1,1,1],[29,0,4,2,3]),([0,1,0,1,1,0,0,0,0,0,0,0,0,0,0,0,0,1,0,1,1,1,1],[0,4,2]),([0,1,1,1,0,0,0,0,0,0,0,0,0,0,0,0,1,0,1,1,1,1],[36,0,4,2,3]),([1,1,1,1,0,0,0,0,0,0,0,0,0,0,0,0,1,0,1,1,1,1],[3,2,0]),([0,1,1,1,1,0,0,0,0,0,0,0,0,0,0,0,0,1,0,1,1,1,1],[0,4,2]),([1,0,0,0,0,0,0,0,0,0,0,0,1,0,1,1,1,1],[3,2,0]),([0,0,0,0,0,0,0,0,0,0,1,0,1,1,1,1],[4,0,2]),([1,0,0,0,0,0,0,0,0,0,1,0,1,1,1,1],[0,4,2]),(z183,[0,4,2]),([0,1,0,0,0,0,0,0,0,1,0,1,1,1,1],[4,2,0]),([1,1,0,0,0,0,0,0,0,1,0,1,1,1,1],[4,2,0]),([0,0,0,0,0,0,1,0,1,1,1,1],[0,4,2]),([0,0,1,0,0,0,0,0,1,0,1,1,1,1],[4,2,0]),([1,0,1,0,0,0,0,0,1,0,1,1,1,1],[4,2,0]),([1,1,0,0,0,0,0,1,0,1,1,1,1],[4,2,0]),([0,0,0,0,1,0,1,1,1,1],[0,4,2]),([0,0,1,0,0,0,1,0,1,1,1,1],[0,4,2]),([1,0,1,0,0,0,1,0,1,1,1,1],[4,2,0]),([1,1,0,0,0,1,0,1,1,1,1],[4,2,0]),(z14t,[3,2,0]),([0,0,1,0,1,0,1,1,1,1],[2,0]),([1,0,1,0,1,0,1,1,1,1],[2,0]),([1,1,0,1,0,1,1,1,1],[4,2,0]),([1,0,1,1,1,1],[4,2,0]),([0,1,1,1,1,1],[2,0]),([1,1,1,1,1,1],[2,0])]
def E_86 (N:Nat)(self:z7):Env:=z1d tys glob [(69,z6q N (zo N)),(70,z58 N)] [] [] [0] false [] []
theorem z1rk (N:Nat)(self:z7):EnvOk Tryd.prog (E_86 N self):=zg mixed zn (FnsOk.cons (zca N (zo N) (z2l N)) (FnsOk.cons (zaj N) (FnsOk.nil))) (ItsOk.nil)
def z36 (N:Nat)(self:z7):PnT:=pnT [(69,40,z8a N self),(70,40,z6p N),(36,40,zi6 SQ0 (fun x=>self x.1) (fun z=>⟨TT0,z⟩))]
theorem z78 (N:Nat)(self:z7)(hself:ContractP Tryd.prog glob 36 40 (zi6 SQ0 (fun x=>self x.1) (fun z=>⟨TT0,z⟩))):PnOk Tryd.prog glob (z36 N self):=PnOk.cons (zft N self hself) (PnOk.cons (zen N) (PnOk.cons (hself) (PnOk.nil)))
def z85 (N:Nat)(self:z7)(p:DT3)(x2:DT2)(kid:DT2)(rep:DT2)(x29:Int)(k0:DT2->Option (Int×(Int×Unit)))(k1:Option (Int×(Int×Unit)))(k2:Option (Int×(Int×Unit)))(k3:Option (Int×(Int×Unit))):Option (Int×(Int×Unit)) :=
 cond (x29 == (43:Int))
 (k0 (rep.1,(rep.2.1,(rep.2.2.1,((1:Int),rep.2.2.2.2)))))
 (cond (x29 == (42:Int))
 (k0 rep)
 (cond (x29 == (63:Int))
 (k1)
 (cond (x29 == (123:Int))
 (k2)
 (k3))))
def z1p1 (N:Nat)(self:z7)(x:zw z1e2)(K:ExP->List A->Option (Int×(Int×Unit))):Option (Int×(Int×Unit)) :=
 z85 N self x.1 x.2.1 x.2.2.1 x.2.2.2.1 x.2.2.2.2.1 (fun a2=>(K .normal (mkS z1dy 65 (x.1,x.2.1,a2,())))) (K (.exit 3) (mkS z1dy 65 (x.1,x.2.1,x.2.2.2.1,()))) (K (.exit 4) (mkS z1dy 65 (x.1,x.2.1,x.2.2.2.1,()))) (K (.exit 5) (mkS [(0,.box (.pair .str TT0)),(1,.box TT1),(0,.box TT1)] 66 (x.1,x.2.1,x.2.2.1,())))
def z1lf (N:Nat)(self:z7):HdP (Int×(Int×Unit)):=fun st K=>(unS z1e2 40 (restr [29,4,0,2,3] 0 st)).bind fun x=>z1p1 N self x K
def t1_86 (N:Nat)(self:z7):zcp (Int×(Int×Unit)):=[]
theorem z1hb {N:Nat}{self:z7}{c:Ctx}(hb:Base Tryd.prog (E_86 N self) c)(hP:PnOk Tryd.prog glob (z36 N self)):z22 Tryd.prog c (zf zx3 z183) (z1lf N self) :=
 z26 (s:=z1e2) (m:=40) (g:=z1p1 N self) [29,4,0,2,3] (z1n hb hP N (t1_86 N self) L_86 zx3 TabOkP.nil z183 _ rfl) (fun x K=>by kernel_rfl)
def z5z (N:Nat)(self:z7)(p:DT3):Option (Int×(Int×Unit)) :=
 orP ((z6r N self p)) (fun z=>some z)
 ((z70 N (zo N) p).bind fun y =>
 cond (y.2.1.2.1 == (((List.length y.2.1.1):Nat):Int))
 (none)
 (cond (inR y.2.1.2.1 (List.length y.2.1.1))
 (z85 N self y.2.1 ((0:Int),(([(0:Int),(0:Int),(0:Int),(0:Int)]:List Int),(([]:List Tree),((0:Int),((0:Int),()))))) y.1 ((4:Int),(([(0:Int),(0:Int),(0:Int),(0:Int)]:List Int),((List.map foN ([y.1]:List DT9)),((0:Int),((-(1:Int)),()))))) (((UInt8.toNat (List.getD y.2.1.1 (Int.toNat y.2.1.2.1) (0:UInt8))):Nat):Int)
 (fun rep=>none)
 (none)
 (orP ((z59 N (y.2.1.1,((IntKind.wrap IntKind.i64 (y.2.1.2.1+(1:Int))),y.2.1.2.2)))) (fun z1=>some z1)
 ((z5a N (y.2.1.1,((IntKind.wrap IntKind.i64 (y.2.1.2.1+(1:Int))),y.2.1.2.2))).bind fun y1 =>
 none))
 (none))
 (none)))
def t_86 (N:Nat)(self:z7):zcp (Int×(Int×Unit)):=[(z183,z1lf N self)]
theorem z19s (N:Nat)(self:z7)(x:zw SQ0):zi7 (E_86 N self) (z36 N self) N (t_86 N self) L_86 Tryd.f66 40 TT0 (mkS SQ0 0 x) (fun z=>some z)=z5z N self x.1:=by kernel_rfl
def z77 (N:Nat)(self:z7):List A->PnRes:=zi6 SQ0 (fun x=>z5z N self x.1) (fun z=>⟨TT0,z⟩)
theorem zf8 (N:Nat)(self:z7)(hself:ContractP Tryd.prog glob 36 40 (zi6 SQ0 (fun x=>self x.1) (fun z=>⟨TT0,z⟩))):ContractP Tryd.prog glob 66 40 (z77 N self) :=
 ContractP.of (E:=E_86 N self) (Pn:=z36 N self) (H:=t_86 N self) (L:=L_86) (N:=N) (body:=zx3) (t:=TT0) (z1rk N self) (z78 N self hself) Tryd.func66 (by kernel_rfl) (by decide) (fun _ hb=>(TabOkP.cons (z1hb hb (z78 N self hself)) TabOkP.nil)) (fun x y h=>by rw[z19s];exact h)
def zko:Code:=(Tryd.f55.body).getD .skip
def z1r6:List (List Nat×List Nat):=[([0],[0,2]),([0,1],[0,3,2]),([0,0,1,1],[0,3,2]),([0,0,0,0,0,1,1],[37,3,0,2]),([1,0,0,0,0,1,1],[3,0,2]),([1,1,0,0,0,0,1,1],[3,2,0]),([0,1,0,0,0,1,1],[0,3,2]),([1,0,0,0,1,1],[0,3,2]),([0,1,1],[3,2,0]),([0,1,1,1],[2,0]),([1,1,1,1],[2,0])]
def z1ed (N:Nat)(self:z7):Env:=z1d tys glob [(57,z8c N),(66,z5y N (zo N))] [(3,TT1)] [] [0] false [] []
theorem z1rj (N:Nat)(self:z7):EnvOk Tryd.prog (z1ed N self):=zg mixed zn (FnsOk.cons (zct N) (FnsOk.cons (zb7 N (zo N) (z2l N)) (FnsOk.nil))) (ItsOk.nil)
def z2b (N:Nat)(self:z7):PnT:=pnT [(66,40,z77 N self),(36,40,zi6 SQ0 (fun x=>self x.1) (fun z=>⟨TT0,z⟩))]
theorem z9b (N:Nat)(self:z7)(hself:ContractP Tryd.prog glob 36 40 (zi6 SQ0 (fun x=>self x.1) (fun z=>⟨TT0,z⟩))):PnOk Tryd.prog glob (z2b N self):=PnOk.cons (zf8 N self hself) (PnOk.cons (hself) (PnOk.nil))
def z9w (N:Nat)(self:z7)(p:DT3)(x2:DT2)(parts:(List DT2))(k0:Option (Int×(Int×Unit)))(k1:Option (Int×(Int×Unit))):Option (Int×(Int×Unit)) :=
 cond (decide (p.2.1<(((List.length p.1):Nat):Int)))
 (cond (inR p.2.1 (List.length p.1))
 (cond ((((UInt8.toNat (List.getD p.1 (Int.toNat p.2.1) (0:UInt8))):Nat):Int) != (124:Int))
 (cond (inR p.2.1 (List.length p.1))
 (cond ((((UInt8.toNat (List.getD p.1 (Int.toNat p.2.1) (0:UInt8))):Nat):Int) != (41:Int))
 (k0)
 (k1))
 (none))
 (k1))
 (none))
 (k1)
def z1nr (N:Nat)(self:z7)(x:zw SQ5)(K:ExP->List A->Option (Int×(Int×Unit))):Option (Int×(Int×Unit)) :=
 z9w N self x.1 x.2.1 x.2.2.1 (K .normal (mkS SQ5 41 (x.1,x.2.1,x.2.2.1,()))) (K (.exit 0) (mkS SQ5 41 (x.1,x.2.1,x.2.2.1,())))
def z1k5 (N:Nat)(self:z7):HdP (Int×(Int×Unit)):=fun st K=>(unS SQ5 41 (restr [0,3,2] 0 st)).bind fun x=>z1nr N self x K
def t3_87 (N:Nat)(self:z7):zcp (Int×(Int×Unit)):=[]
theorem z1g1 {N:Nat}{self:z7}{c:Ctx}(hb:Base Tryd.prog (z1ed N self) c)(hP:PnOk Tryd.prog glob (z2b N self)):z22 Tryd.prog c (zf zko [0,0,0,0,1,1]) (z1k5 N self) :=
 z26 (s:=SQ5) (m:=41) (g:=z1nr N self) [0,3,2] (z1n hb hP N (t3_87 N self) z1r6 zko TabOkP.nil [0,0,0,0,1,1] _ rfl) (fun x K=>by kernel_rfl)
def z9v (N:Nat)(self:z7)(x2:DT2)(p:DT3)(parts:(List DT2))(rec:DT3->(List DT2)->Option (Int×(Int×Unit)))(k0:(Int×(Int×Unit))->Option (Int×(Int×Unit)))(k1:DT3->(List DT2)->Option (Int×(Int×Unit))):Option (Int×(Int×Unit)) :=
 z9w N self p x2 parts
 (orP ((z5z N self p)) (fun z=>k0 z)
 ((z64 N (zo N) p).bind fun y =>
 cond (decide ((((List.length parts)+1)*80)<=70368744177664))
 (rec y.2.1 (parts++([y.1]:List DT9)))
 (none)))
 (k1 p parts)
def zgj (N:Nat)(self:z7)(p:DT3)(x2:DT2)(parts:(List DT2))(k0:(Int×(Int×Unit))->Option (Int×(Int×Unit)))(k1:DT3->(List DT2)->Option (Int×(Int×Unit))):Option (Int×(Int×Unit)) :=
 iter (fun (v:(DT3×(List DT2))) r=>z9v N self x2 v.1 v.2 (fun p parts=>(r (p,parts))) k0 k1) N (p,parts)
def z1o7 (N:Nat)(self:z7)(i:DT2)(v:(DT3×(List DT2)))(r:(DT3×(List DT2))->Option (Int×(Int×Unit)))(K:ExP->List A->Option (Int×(Int×Unit))):Option (Int×(Int×Unit)) :=
 z9v N self i v.1 v.2 (fun p parts=>(r (p,parts))) (fun a0=>(K (.pan 40) (mkS [(0,.v TT0)] 0 (a0,())))) (fun a0 a2=>(K (.exit 0) (mkS SQ5 41 (a0,i,a2,()))))
def z1kl (N:Nat)(self:z7):HdP (Int×(Int×Unit)):=fun st K=>(unS SQ5 41 (restr [0,3,2] 0 st)).bind fun x=>iter (fun v r=>z1o7 N self ((fun x=>x.2.1) x) v r K) N ((fun x=>(x.1,x.2.2.1)) x)
def t2_87 (N:Nat)(self:z7):zcp (Int×(Int×Unit)):=[([0,0,0,0,1,1],z1k5 N self)]
theorem z1gh {N:Nat}{self:z7}{c:Ctx}(hb:Base Tryd.prog (z1ed N self) c)(hP:PnOk Tryd.prog glob (z2b N self)):z22 Tryd.prog c (zf zko [0,0,1,1]) (z1kl N self) :=
 znt (s:=SQ5) (m:=41) (z1o7 N self) [0,3,2] N (fun x=>x.2.1) (fun x=>(x.1,x.2.2.1)) (fun i v=>(v.1,i,v.2,())) (fun _=>rfl) (z1n hb hP N (t2_87 N self) z1r6 zko (TabOkP.cons (z1g1 hb hP) TabOkP.nil) [0,0,0,1,1] _ rfl) (fun i v r K=>by kernel_rfl)
def z9x (N:Nat)(self:z7)(p:DT3)(x2:DT2)(parts:(List DT2))(k0:(Int×(Int×Unit))->Option (Int×(Int×Unit)))(k1:DT3->(List DT2)->Option (Int×(Int×Unit))):Option (Int×(Int×Unit)) :=
 zgj N self p x2 parts
 (fun p1=>k0 p1)
 (fun p2 zl9=>k1 p2 zl9)
def z1p0 (N:Nat)(self:z7)(x:zw SQ5)(K:ExP->List A->Option (Int×(Int×Unit))):Option (Int×(Int×Unit)) :=
 z9x N self x.1 x.2.1 x.2.2.1 (fun a0=>(K (.pan 40) (mkS [(0,.v TT0)] 0 (a0,())))) (fun a0 a2=>(K .normal (mkS SQ5 41 (a0,x.2.1,a2,()))))
def z1le (N:Nat)(self:z7):HdP (Int×(Int×Unit)):=fun st K=>(unS SQ5 41 (restr [0,3,2] 0 st)).bind fun x=>z1p0 N self x K
def t1_87 (N:Nat)(self:z7):zcp (Int×(Int×Unit)):=[([0,0,1,1],z1kl N self)]
theorem z1ha {N:Nat}{self:z7}{c:Ctx}(hb:Base Tryd.prog (z1ed N self) c)(hP:PnOk Tryd.prog glob (z2b N self)):z22 Tryd.prog c (zf zko [0,1,1]) (z1le N self) :=
 z26 (s:=SQ5) (m:=41) (g:=z1p0 N self) [0,3,2] (z1n hb hP N (t1_87 N self) z1r6 zko (TabOkP.cons (z1gh hb hP) TabOkP.nil) [0,1,1] _ rfl) (fun x K=>by kernel_rfl)
def z4i (N:Nat)(self:z7)(p:DT3):Option (Int×(Int×Unit)) :=
 z9x N self p ((0:Int),(([(0:Int),(0:Int),(0:Int),(0:Int)]:List Int),(([]:List Tree),((0:Int),((0:Int),()))))) ([]:List DT9)
 (fun p1=>some p1)
 (fun p2 parts=>(zd0 N (2:Int) (List.map foN parts)).bind fun y =>
 none)
def t_87 (N:Nat)(self:z7):zcp (Int×(Int×Unit)):=[([0,1,1],z1le N self)]
theorem z19r (N:Nat)(self:z7)(x:zw SQ0):zi7 (z1ed N self) (z2b N self) N (t_87 N self) z1r6 Tryd.f55 40 TT0 (mkS SQ0 0 x) (fun z=>some z)=z4i N self x.1:=by kernel_rfl
def z9a (N:Nat)(self:z7):List A->PnRes:=zi6 SQ0 (fun x=>z4i N self x.1) (fun z=>⟨TT0,z⟩)
theorem zgk (N:Nat)(self:z7)(hself:ContractP Tryd.prog glob 36 40 (zi6 SQ0 (fun x=>self x.1) (fun z=>⟨TT0,z⟩))):ContractP Tryd.prog glob 55 40 (z9a N self) :=
 ContractP.of (E:=z1ed N self) (Pn:=z2b N self) (H:=t_87 N self) (L:=z1r6) (N:=N) (body:=zko) (t:=TT0) (z1rj N self) (z9b N self hself) Tryd.func55 (by kernel_rfl) (by decide) (fun _ hb=>(TabOkP.cons (z1ha hb (z9b N self hself)) TabOkP.nil)) (fun x y h=>by rw[z19r];exact h)
def zt1:Code:=(Tryd.f36.body).getD .skip
def L_88:List (List Nat×List Nat):=[([0],[0,2]),([0,1],[0,3,2]),([0,0,1,1],[0,3,2]),([0,0,0,0,0,1,1],[8,3,0,2]),([1,0,0,0,0,1,1],[3,0,2]),([1,1,0,0,0,0,1,1],[3,2,0]),([0,1,0,0,0,1,1],[0,3,2]),([1,0,0,0,1,1],[0,3,2]),([0,1,1],[3,2,0]),([0,1,1,1],[2,0]),([1,1,1,1],[2,0])]
def E_88 (N:Nat)(self:DT3->Option (Int×(Int×Unit))):Env:=z1d tys glob [(55,z7k N (zo N)),(56,z1i N),(57,z8c N)] [(3,TT1)] [] [0] false [] []
theorem z1ri (N:Nat)(self:DT3->Option (Int×(Int×Unit))):EnvOk Tryd.prog (E_88 N self):=zg mixed zn (FnsOk.cons (zdv N (zo N) (z2l N)) (FnsOk.cons (z1y N) (FnsOk.cons (zct N) (FnsOk.nil)))) (ItsOk.nil)
def z3w (N:Nat)(self:DT3->Option (Int×(Int×Unit))):PnT:=pnT [(55,40,z9a N self),(36,40,zi6 SQ0 (fun x=>self x.1) (fun z=>⟨TT0,z⟩))]
theorem z9f (N:Nat)(self:DT3->Option (Int×(Int×Unit)))(hself:ContractP Tryd.prog glob 36 40 (zi6 SQ0 (fun x=>self x.1) (fun z=>⟨TT0,z⟩))):PnOk Tryd.prog glob (z3w N self):=PnOk.cons (zgk N self hself) (PnOk.cons (hself) (PnOk.nil))
def z9y (N:Nat)(self:DT3->Option (Int×(Int×Unit)))(x2:DT2)(p:DT3)(parts:(List DT2))(rec:DT3->(List DT2)->Option (Int×(Int×Unit)))(k0:(Int×(Int×Unit))->Option (Int×(Int×Unit)))(k1:DT3->(List DT2)->Option (Int×(Int×Unit))):Option (Int×(Int×Unit)) :=
 (z16 N p (124:Int)).bind fun y =>
 cond y.1
 (orP ((z4i N self y.2.1)) (fun z=>k0 z)
 ((z42 N (zo N) y.2.1).bind fun y1 =>
 cond (decide ((((List.length parts)+1)*80)<=70368744177664))
 (rec y1.2.1 (parts++([y1.1]:List DT9)))
 (none)))
 (k1 y.2.1 parts)
def zgl (N:Nat)(self:DT3->Option (Int×(Int×Unit)))(p:DT3)(x2:DT2)(parts:(List DT2))(k0:(Int×(Int×Unit))->Option (Int×(Int×Unit)))(k1:DT3->(List DT2)->Option (Int×(Int×Unit))):Option (Int×(Int×Unit)) :=
 iter (fun (v:(DT3×(List DT2))) r=>z9y N self x2 v.1 v.2 (fun p parts=>(r (p,parts))) k0 k1) N (p,parts)
def z1oz (N:Nat)(self:DT3->Option (Int×(Int×Unit)))(i:DT2)(v:(DT3×(List DT2)))(r:(DT3×(List DT2))->Option (Int×(Int×Unit)))(K:ExP->List A->Option (Int×(Int×Unit))):Option (Int×(Int×Unit)) :=
 z9y N self i v.1 v.2 (fun p parts=>(r (p,parts))) (fun a0=>(K (.pan 40) (mkS [(0,.v TT0)] 0 (a0,())))) (fun a0 a2=>(K (.exit 0) (mkS SQ5 12 (a0,i,a2,()))))
def z1ld (N:Nat)(self:DT3->Option (Int×(Int×Unit))):HdP (Int×(Int×Unit)):=fun st K=>(unS SQ5 12 (restr [0,3,2] 0 st)).bind fun x=>iter (fun v r=>z1oz N self ((fun x=>x.2.1) x) v r K) N ((fun x=>(x.1,x.2.2.1)) x)
def t1_88 (N:Nat)(self:DT3->Option (Int×(Int×Unit))):zcp (Int×(Int×Unit)):=[]
theorem z1h9 {N:Nat}{self:DT3->Option (Int×(Int×Unit))}{c:Ctx}(hb:Base Tryd.prog (E_88 N self) c)(hP:PnOk Tryd.prog glob (z3w N self)):z22 Tryd.prog c (zf zt1 [0,0,1,1]) (z1ld N self) :=
 znt (s:=SQ5) (m:=12) (z1oz N self) [0,3,2] N (fun x=>x.2.1) (fun x=>(x.1,x.2.2.1)) (fun i v=>(v.1,i,v.2,())) (fun _=>rfl) (z1n hb hP N (t1_88 N self) L_88 zt1 TabOkP.nil [0,0,0,1,1] _ rfl) (fun i v r K=>by kernel_rfl)
def zak (N:Nat)(self:DT3->Option (Int×(Int×Unit)))(p:DT3):Option (Int×(Int×Unit)) :=
 orP ((z4i N self p)) (fun z=>some z)
 ((z42 N (zo N) p).bind fun y =>
 zgl N self y.2.1 ((0:Int),(([(0:Int),(0:Int),(0:Int),(0:Int)]:List Int),(([]:List Tree),((0:Int),((0:Int),()))))) ([y.1]:List DT9)
 (fun p1=>some p1)
 (fun p2 parts=>(zd0 N (3:Int) (List.map foN parts)).bind fun y1 =>
 none))
def t_88 (N:Nat)(self:DT3->Option (Int×(Int×Unit))):zcp (Int×(Int×Unit)):=[([0,0,1,1],z1ld N self)]
theorem z19q (N:Nat)(self:DT3->Option (Int×(Int×Unit)))(x:zw SQ0):zi7 (E_88 N self) (z3w N self) N (t_88 N self) L_88 Tryd.f36 40 TT0 (mkS SQ0 0 x) (fun z=>some z)=zak N self x.1:=by kernel_rfl
def z1o:Nat->DT3->Option (Int×(Int×Unit))
 | 0=>fun _=>none
 | N+1=>zak (N+1) (z1o N)
def zfu (N:Nat):List A->PnRes:=zi6 SQ0 (fun x=>z1o N x.1) (fun z=>⟨TT0,z⟩)
theorem z5b:∀ N:Nat,ContractP Tryd.prog glob 36 40 (zfu N)
 | 0=>ContractP.zero Tryd.func36 (body:=zt1) (by kernel_rfl) (by decide) (fun _=>rfl)
 | N+1=>ContractP.of (E:=E_88 (N+1) (z1o N)) (Pn:=z3w (N+1) (z1o N)) (H:=t_88 (N+1) (z1o N)) (L:=L_88) (N:=(N+1)) (body:=zt1) (t:=TT0) (z1ri (N+1) (z1o N)) (z9f (N+1) (z1o N) (z5b N)) Tryd.func36 (by kernel_rfl) (by decide) (fun _ hb=>(TabOkP.cons (z1h9 hb (z9f (N+1) (z1o N) (z5b N))) TabOkP.nil)) (fun x y h=>by rw[z19q];exact h)
end
end Go.Proofs.YtnnjnkjfkaaikaaDoorLg
set_option linter.all false
set_option maxRecDepth 100000
namespace Go.Proofs.YtnnjnkjfkaaikaaDoorLg
noncomputable section
open Go Go.Lift
def Cl (w:World)(n:Nat)(cs:List Value):Prop:=∀ i v,cs[i]?=some v->w.cell? ⟨n,i,none⟩=some v/\w.frozen? ⟨n,i,none⟩=false
def PsW (w0:World)(S0 S:Hp)(W:World):Prop:=WF w0 (fun _=>False) W/\Lift.Sub S0 S/\Lift.Sub S (hp W)/\∀ k,S k≠none->S0 k≠none\/w0.heap.size<=k
theorem PsW.drew {w0 W:World}{S0 S:Hp}(h:PsW w0 S0 S W):PsW w0 S0 S W.drew:=by
 obtain⟨h1,h2,h3,h4⟩:=h;exact⟨⟨h1.size,h1.same,h1.tape,h1.os,h1.output⟩,h2,h3,h4⟩
theorem PsW.alloc {w0 W:World}{S0 S:Hp}(h:PsW w0 S0 S W)(cs:Array Value)(E:Nat):PsW w0 S0 S (W.alloc (.cells cs E)):=by
 obtain⟨h1,h2,h3,h4⟩:=h;have hh:(W.alloc (.cells cs E)).heap=W.heap.push (.cells cs E (0,0)):=rfl;have hk:∀ k,k<W.heap.size->(W.alloc (.cells cs E)).heap[k]?=W.heap[k]?:=fun k hk=>by
  rw[hh,Array.getElem?_push,if_neg (by omega)]
 refine⟨⟨by rw[hh,Array.size_push];have:=h1.size;omega,fun k h1' h2'=>by rw[hk k (by have:=h1.size;omega)];exact h1.same k h1' h2',h1.tape,h1.os,h1.output⟩,h2,fun k q ho=>?_,h4⟩;have:=h3 k q ho;simp only[hp] at this ⊢;rw[hk k (Array.getElem?_eq_some_iff.1 this).1];exact this
theorem zid {W:World}{p i:Nat}{v:Value}{k:Nat}(hk:k≠p):(W.setCell ⟨p,i,none⟩ v).heap[k]?=W.heap[k]?:=by
 unfold World.setCell;split<;>simp[Array.getElem?_modify,Ne.symm hk]
theorem PsW.setCell {w0 W:World}{S0 S:Hp}{p i:Nat}{v:Value}(h:PsW w0 S0 S W)(hp':w0.heap.size<=p)(hS:S p=none):PsW w0 S0 S (W.setCell ⟨p,i,none⟩ v):=by
 obtain⟨h1,h2,h3,h4⟩:=h;have hsz:(W.setCell ⟨p,i,none⟩ v).heap.size=W.heap.size:=by
  unfold World.setCell;split<;>simp
 have ht:(W.setCell ⟨p,i,none⟩ v).tape=W.tape/\(W.setCell ⟨p,i,none⟩ v).os=W.os/\(W.setCell ⟨p,i,none⟩ v).output=W.output:=by
  unfold World.setCell;split
  . exact⟨rfl,rfl,rfl⟩
  . exact⟨rfl,rfl,rfl⟩
 refine⟨⟨by rw[hsz];exact h1.size,fun k h1' h2'=>by rw[zid (by omega)];exact h1.same k h1' h2',by rw[ht.1];exact h1.tape,by rw[ht.2.1];exact h1.os,by rw[ht.2.2];exact h1.output⟩,h2,fun k q ho=>?_,h4⟩;have hk:k≠p:=fun e=>by rw[e,hS] at ho;cases ho
 have:=h3 k q ho;simp only[hp] at this ⊢;rw[zid hk];exact this
theorem z55 {w:World}{n:Nat}{cs:List Value}(h:Cl w n cs)(i:Nat)(v:Value):Cl (w.setCell ⟨n,i,none⟩ v) n (cs.set i v):=by
 intro j u hj;rw[List.getElem?_set] at hj;by_cases e:i=j
 . subst e;rw[if_pos rfl] at hj;split at hj
   . rename_i hl;cases hj;obtain⟨h1,h2⟩:=h i _ (List.getElem?_eq_getElem hl);constructor<;>simp[go_sem,h1,h2]
   . cases hj
 . rw[if_neg e] at hj;obtain⟨h1,h2⟩:=h j _ hj;have e':j≠i:=fun h=>e h.symm
   constructor<;>simp[go_sem,h1,h2,e,e']
theorem z1s {w:World}{n m:Nat}{cs:List Value}(h:Cl w n cs)(hne:m≠n)(i:Nat)(v:Value):Cl (w.setCell ⟨m,i,none⟩ v) n cs:=by
 intro j u hj;obtain⟨h1,h2⟩:=h j _ hj;have e':n≠m:=fun h=>hne h.symm
 constructor<;>simp[go_sem,h1,h2,hne,e']
theorem zj4 {w:World}{n:Nat}{c:Value}{cs:List Value}(h:Cl w n (c::cs))(o:Obj):Cl (w.alloc o) n (c::cs):=by
 have hlt:n<w.heap.size:=by
  have h0:=(h 0 c rfl).1;rcases Nat.lt_or_ge n w.heap.size with h1|h1
  . exact h1
  . simp[World.cell?,Array.getElem?_eq_none h1] at h0
 intro i v hi;obtain⟨h1,h2⟩:=h i v hi;exact⟨by rw[World.cell?_alloc_past _ _ _ hlt];exact h1,by rw[World.frozen?_alloc_past _ _ _ hlt];exact h2⟩
theorem zv2 {w:World}{n:Nat}{c:Value}{cs:List Value}(h:Cl w n (c::cs)):n<w.heap.size:=by
 have h0:=(h 0 c rfl).1;rcases Nat.lt_or_ge n w.heap.size with h1|h1
 . exact h1
 . simp[World.cell?,Array.getElem?_eq_none h1] at h0
theorem ps_idle {w:World}{n0 n1:Nat} :
 CallsD Go.Proofs.Tryd.prog 35 #[.pointer (some ⟨n0,0,none⟩),.pointer (some ⟨n1,0,none⟩)] .returning w fun e u w'=>(∃ v,e=.returned v)/\u=.returning/\w'=w.alloc (Obj.cells #[Value.int IntKind.i64 0,Value.int IntKind.i64 0] 40):=by
 refine callsD_of_wpS Go.Proofs.Tryd.func35 rfl fun c₀ cs hu=>?_
 have ha:∀ W:World,(Instr.typeAssert .nilIface 20 40 true).run Go.Proofs.Tryd.prog W=.ok (.tuple #[.agg #[.int .i64 0,.int .i64 0],.bool false]) W:=fun W=>by kernel_rfl
 apply wpS_seq;apply wpS_region;simp only[Go.Proofs.Tryd.ntmps35,List.size_toArray,List.length_cons,List.length_nil,Nat.reduceAdd,Nat.reduceSub,Array.replicate_succ,
  Array.replicate_zero,List.push_toArray,List.append_toArray,List.nil_append,List.cons_append]
 simp[wpOpsS,go_sem,recoverD,hu,Exit.thenS,ha,List.range_succ];refine wpS_of_wp ?_
 go_wp2
 cases c₀
 simp_all [bodyPostS,results,Go.Proofs.Tryd.results35]
set_option maxHeartbeats 16000000 in
theorem zu2 {w:World}{n0 n1:Nat}{e a:Int}{y0 y1:Value}{c0 c1 c2 c3 c4 c5 c6 c7:Value}{R:World->Prop}(h0:Cl (w.alloc (Obj.cells #[Value.int IntKind.i64 e,Value.int IntKind.i64 a] 40)) n0 [c0,c1,c2,c3,c4,c5,c6,c7])(h1:Cl (w.alloc (Obj.cells #[Value.int IntKind.i64 e,Value.int IntKind.i64 a] 40)) n1 [y0,y1])(hne:n0≠n1)(hn2:n0≠w.heap.size)(hn3:n1≠w.heap.size)
 (hR:∀ w',Cl w' n0 [.int .i64 0,.int .u64 0,.int .u64 0,.int .u64 0,.int .u64 0,.slice none 0 0,.int .i64 0,.int .i64 0]->Cl w' n1 [.int .i64 e,.int .i64 a] →
  (∀ (w0:World) (S0 S:Hp),PsW w0 S0 S w->w0.heap.size<=n0->w0.heap.size<=n1->S n0=none->S n1=none->PsW w0 S0 S w')->R w') :
 CallsD Go.Proofs.Tryd.prog 35 #[.pointer (some ⟨n0,0,none⟩),.pointer (some ⟨n1,0,none⟩)] (.panicking [{ v:=.iface 40 (.agg #[.int .i64 e,.int .i64 a]),recovered:=false }]) w fun r u w'=>(∃ v,r=.returned v)/\u=.panicking [{ v:=.iface 40 (.agg #[.int .i64 e,.int .i64 a]),recovered:=true }]/\R w':=by
 refine callsD_of_wpS Go.Proofs.Tryd.func35 rfl fun c₀ cs hu=>?_
 have ha:∀ W:World,(Instr.typeAssert (.iface 40 (.agg #[.int .i64 e,.int .i64 a])) 20 40 true).run Go.Proofs.Tryd.prog W=.ok (.tuple #[.agg #[.int .i64 e,.int .i64 a],.bool true]) W:=fun W=>by kernel_rfl
 have c00:(w.alloc (Obj.cells #[Value.int IntKind.i64 e,Value.int IntKind.i64 a] 40)).cell? ⟨n0,0,none⟩=some (c0):=(h0 0 _ rfl).1;have z00:(w.alloc (Obj.cells #[Value.int IntKind.i64 e,Value.int IntKind.i64 a] 40)).frozen? ⟨n0,0,none⟩=false:=(h0 0 _ rfl).2;have c01:(w.alloc (Obj.cells #[Value.int IntKind.i64 e,Value.int IntKind.i64 a] 40)).cell? ⟨n0,1,none⟩=some (c1):=(h0 1 _ rfl).1;have z01:(w.alloc (Obj.cells #[Value.int IntKind.i64 e,Value.int IntKind.i64 a] 40)).frozen? ⟨n0,1,none⟩=false:=(h0 1 _ rfl).2;have c02:(w.alloc (Obj.cells #[Value.int IntKind.i64 e,Value.int IntKind.i64 a] 40)).cell? ⟨n0,2,none⟩=some (c2):=(h0 2 _ rfl).1;have z02:(w.alloc (Obj.cells #[Value.int IntKind.i64 e,Value.int IntKind.i64 a] 40)).frozen? ⟨n0,2,none⟩=false:=(h0 2 _ rfl).2;have c03:(w.alloc (Obj.cells #[Value.int IntKind.i64 e,Value.int IntKind.i64 a] 40)).cell? ⟨n0,3,none⟩=some (c3):=(h0 3 _ rfl).1;have z03:(w.alloc (Obj.cells #[Value.int IntKind.i64 e,Value.int IntKind.i64 a] 40)).frozen? ⟨n0,3,none⟩=false:=(h0 3 _ rfl).2;have c04:(w.alloc (Obj.cells #[Value.int IntKind.i64 e,Value.int IntKind.i64 a] 40)).cell? ⟨n0,4,none⟩=some (c4):=(h0 4 _ rfl).1;have z04:(w.alloc (Obj.cells #[Value.int IntKind.i64 e,Value.int IntKind.i64 a] 40)).frozen? ⟨n0,4,none⟩=false:=(h0 4 _ rfl).2;have c05:(w.alloc (Obj.cells #[Value.int IntKind.i64 e,Value.int IntKind.i64 a] 40)).cell? ⟨n0,5,none⟩=some (c5):=(h0 5 _ rfl).1;have z05:(w.alloc (Obj.cells #[Value.int IntKind.i64 e,Value.int IntKind.i64 a] 40)).frozen? ⟨n0,5,none⟩=false:=(h0 5 _ rfl).2;have c06:(w.alloc (Obj.cells #[Value.int IntKind.i64 e,Value.int IntKind.i64 a] 40)).cell? ⟨n0,6,none⟩=some (c6):=(h0 6 _ rfl).1;have z06:(w.alloc (Obj.cells #[Value.int IntKind.i64 e,Value.int IntKind.i64 a] 40)).frozen? ⟨n0,6,none⟩=false:=(h0 6 _ rfl).2;have c07:(w.alloc (Obj.cells #[Value.int IntKind.i64 e,Value.int IntKind.i64 a] 40)).cell? ⟨n0,7,none⟩=some (c7):=(h0 7 _ rfl).1;have z07:(w.alloc (Obj.cells #[Value.int IntKind.i64 e,Value.int IntKind.i64 a] 40)).frozen? ⟨n0,7,none⟩=false:=(h0 7 _ rfl).2;have c10:(w.alloc (Obj.cells #[Value.int IntKind.i64 e,Value.int IntKind.i64 a] 40)).cell? ⟨n1,0,none⟩=some (y0):=(h1 0 _ rfl).1;have z10:(w.alloc (Obj.cells #[Value.int IntKind.i64 e,Value.int IntKind.i64 a] 40)).frozen? ⟨n1,0,none⟩=false:=(h1 0 _ rfl).2;have c11:(w.alloc (Obj.cells #[Value.int IntKind.i64 e,Value.int IntKind.i64 a] 40)).cell? ⟨n1,1,none⟩=some (y1):=(h1 1 _ rfl).1;have z11:(w.alloc (Obj.cells #[Value.int IntKind.i64 e,Value.int IntKind.i64 a] 40)).frozen? ⟨n1,1,none⟩=false:=(h1 1 _ rfl).2;apply wpS_seq;apply wpS_region;simp only[Go.Proofs.Tryd.ntmps35,List.size_toArray,List.length_cons,List.length_nil,Nat.reduceAdd,Nat.reduceSub,Array.replicate_succ,
  Array.replicate_zero,List.push_toArray,List.append_toArray,List.nil_append,List.cons_append]
 simp[wpOpsS,go_sem,recoverD,hu,Exit.thenS,ha,List.range_succ];refine wpS_of_wp ?_
 go_wp2
 go_region
 have hfin:R ((((((((((((w.alloc (Obj.cells #[Value.int IntKind.i64 e,Value.int IntKind.i64 a] 40)).setCell { block:=n0,off:=0 } (.int .i64 0)).setCell { block:=n0,off:=1 } (.int .u64 0)).setCell { block:=n0,off:=2 } (.int .u64 0)).setCell { block:=n0,off:=3 } (.int .u64 0)).setCell { block:=n0,off:=4 } (.int .u64 0)).setCell { block:=n0,off:=5 } (.slice none 0 0)).setCell { block:=n0,off:=6 } (.int .i64 0)).setCell { block:=n0,off:=7 } (.int .i64 0)).setCell { block:=n1,off:=0 } (.int .i64 e)).setCell { block:=n1,off:=1 } (.int .i64 a)).drew):=by
  refine hR _ ?_ ?_ ?_
  . intro i v hi;rcases i with _|_|_|_|_|_|_|_|i
    case succ.succ.succ.succ.succ.succ.succ.succ=>simp at hi
    all_goals (simp only[List.getElem?_cons_zero,List.getElem?_cons_succ,Option.some.injEq] at hi;subst hi;constructor<;>simp[go_sem, *])
  . intro i v hi;rcases i with _|_|i
    case succ.succ=>simp at hi
    all_goals (simp only[List.getElem?_cons_zero,List.getElem?_cons_succ,Option.some.injEq] at hi;subst hi;constructor<;>simp[go_sem, *])
  . intro w0 S0 S hw hl0 hl1 hS0 hS1;exact (((((((((((hw.alloc _ _).setCell hl0 hS0).setCell hl0 hS0).setCell hl0 hS0).setCell hl0 hS0).setCell hl0 hS0).setCell hl0 hS0).setCell hl0 hS0).setCell hl0 hS0).setCell hl1 hS1).setCell hl1 hS1).drew
 change bodyPostS Go.Proofs.Tryd.prog Go.Proofs.Tryd.f35 c₀ cs _ _ _ _ _;clear hR h0 h1 c00 z00 c01 z01 c02 z02 c03 z03 c04 z04 c05 z05 c06 z06 c07 z07 c10 z10 c11 z11;cases c₀
 simp_all [bodyPostS,results,Go.Proofs.Tryd.results35]
theorem z19b {w:World}{s:List UInt8}{S:Hp}(hS:Lift.Sub S (hp w))(hlen:(256:Int)<s.length) :
 Calls Go.Proofs.Tryd.prog 13 #[.string ⟨⟨s⟩⟩] w fun r w'=>r=.returned (.tuple #[.agg #[Value.int IntKind.i64 0,Value.int IntKind.u64 0,Value.int IntKind.u64 0,Value.int IntKind.u64 0,Value.int IntKind.u64 0,Value.slice none 0 0,Value.int IntKind.i64 0,Value.int IntKind.i64 0],.agg #[.int .i64 3,.int .i64 256]])/\PsW w S S w':=by
 have h0:PsW w S S w:=⟨WF.refl _ _,Lift.Sub.refl _,hS,fun k hk=>.inl hk⟩
 have hn0:S w.heap.size=none:=by
  cases hx:S w.heap.size with
  | none=>rfl
  | some o=>exact absurd (z72 (hS _ _ hx)) (Nat.lt_irrefl _)
 have hn1:S (w.heap.size+1)=none:=by
  cases hx:S (w.heap.size+1) with
  | none=>rfl
  | some o=>exact absurd (z72 (hS _ _ hx)) (by omega)
 go_enter Go.Proofs.Tryd.func13,Go.Proofs.Tryd.ntmps13
 go_wp2
 simp[bodyPost,results,Go.Proofs.Tryd.results13,go_sem];exact (h0.alloc _ _).alloc _ _
set_option maxHeartbeats 16000000 in
theorem ps_ok {w:World}{s:List UInt8}{S:Hp}{at_:Int}{F:Hp->Value->Prop}(hlen:¬ (256:Int)<s.length)
 (hc:Calls Go.Proofs.Tryd.prog 36 #[.pointer (some ⟨w.heap.size+1+1,0,none⟩)] (((w.alloc (Obj.cells #[Value.int IntKind.i64 0,Value.int IntKind.u64 0,Value.int IntKind.u64 0,Value.int IntKind.u64 0,Value.int IntKind.u64 0,Value.slice none 0 0,Value.int IntKind.i64 0,Value.int IntKind.i64 0] 27)).alloc (Obj.cells #[Value.int IntKind.i64 0,Value.int IntKind.i64 0] 40)).alloc (Obj.cells #[Value.string ⟨⟨s⟩⟩,Value.int IntKind.i64 0,Value.int IntKind.i64 0] 69)) fun r w2=>∃ (k a0 a1 a2 a3 lo hi:Int) (sp:Option Addr) (sn sc:Nat) (S':Hp),r=.returned (.agg #[.int .i64 k,.int .u64 a0,.int .u64 a1,.int .u64 a2,.int .u64 a3,.slice sp sn sc,.int .i64 lo,.int .i64 hi])/\Cl w2 (w.heap.size) [.int .i64 0,.int .u64 0,.int .u64 0,.int .u64 0,.int .u64 0,.slice none 0 0,.int .i64 0,.int .i64 0]/\Cl w2 (w.heap.size+1) [.int .i64 0,.int .i64 0]/\w2.cell? ⟨w.heap.size+1+1,1,none⟩=some (.int .i64 at_)/\S' (w.heap.size)=none/\S' (w.heap.size+1)=none/\PsW w S S' w2/\F S' (.agg #[.int .i64 k,.int .u64 a0,.int .u64 a1,.int .u64 a2,.int .u64 a3,.slice sp sn sc,.int .i64 lo,.int .i64 hi]))
 (hat:¬ at_<s.length) :
 Calls Go.Proofs.Tryd.prog 13 #[.string ⟨⟨s⟩⟩] w fun r w'=>∃ v S',r=.returned (.tuple #[v,.agg #[.int .i64 0,.int .i64 0]])/\F S' v/\PsW w S S' w':=by
 have hmf:∀ (fn:Fn) (first cap:Array Value) (w:World),(Instr.makeFunc fn first cap).run Go.Proofs.Tryd.prog w=.ok (.func fn first cap) w:=fun _ _ _ _=>rfl
 have p1:w.heap.size+1+1≠w.heap.size:=by omega
 have p2:w.heap.size+1≠w.heap.size:=by omega
 go_enter_defers Go.Proofs.Tryd.func13,Go.Proofs.Tryd.ntmps13
 go_wp2_with (first
  | (go_at_call 36;refine hc.mono ?_;rintro r w2 ⟨k,a0,a1,a2,a3,lo,hi,sp,sn,sc,S',rfl,hC0,hC1,hat2,hs0,hs1,hP,hFF⟩;have c00:=(hC0 0 _ rfl).1;have z00:=(hC0 0 _ rfl).2;have c01:=(hC0 1 _ rfl).1;have z01:=(hC0 1 _ rfl).2;have c02:=(hC0 2 _ rfl).1;have z02:=(hC0 2 _ rfl).2;have c03:=(hC0 3 _ rfl).1;have z03:=(hC0 3 _ rfl).2;have c04:=(hC0 4 _ rfl).1;have z04:=(hC0 4 _ rfl).2;have c05:=(hC0 5 _ rfl).1;have z05:=(hC0 5 _ rfl).2;have c06:=(hC0 6 _ rfl).1;have z06:=(hC0 6 _ rfl).2;have c07:=(hC0 7 _ rfl).1;have z07:=(hC0 7 _ rfl).2;have c10:=(hC1 0 _ rfl).1;have z10:=(hC1 0 _ rfl).2;have c11:=(hC1 1 _ rfl).1;have z11:=(hC1 1 _ rfl).2;have hl0:w.heap.size<w2.heap.size:=zv2 hC0;have hl1:w.heap.size+1<w2.heap.size:=zv2 hC1;have H0:=Go.Lib.hid hC0;have H1:=Go.Lib.hid hC1;have HP:=Go.Lib.hid hP;have HF:=Go.Lib.hid hFF;clear hc hC0 hC1 hP hFF))
 have k0:Cl (((((((((((((((((((w2).setCell { block:=w.heap.size,off:=0 } (Value.int IntKind.i64 k)).setCell { block:=w.heap.size,off:=1 } (Value.int IntKind.u64 a0)).setCell { block:=w.heap.size,off:=2 } (Value.int IntKind.u64 a1)).setCell { block:=w.heap.size,off:=3 } (Value.int IntKind.u64 a2)).setCell { block:=w.heap.size,off:=4 } (Value.int IntKind.u64 a3)).setCell { block:=w.heap.size,off:=5 } (Value.slice sp sn sc)).setCell { block:=w.heap.size,off:=6 } (Value.int IntKind.i64 lo)).setCell { block:=w.heap.size,off:=7 } (Value.int IntKind.i64 hi)).setCell { block:=w.heap.size,off:=0 } (Value.int IntKind.i64 k)).setCell { block:=w.heap.size,off:=1 } (Value.int IntKind.u64 a0)).setCell { block:=w.heap.size,off:=2 } (Value.int IntKind.u64 a1)).setCell { block:=w.heap.size,off:=3 } (Value.int IntKind.u64 a2)).setCell { block:=w.heap.size,off:=4 } (Value.int IntKind.u64 a3)).setCell { block:=w.heap.size,off:=5 } (Value.slice sp sn sc)).setCell { block:=w.heap.size,off:=6 } (Value.int IntKind.i64 lo)).setCell { block:=w.heap.size,off:=7 } (Value.int IntKind.i64 hi)).setCell { block:=w.heap.size+1,off:=0 } (Value.int IntKind.i64 0)).setCell { block:=w.heap.size+1,off:=1 } (Value.int IntKind.i64 0)) (w.heap.size) [.int .i64 k,.int .u64 a0,.int .u64 a1,.int .u64 a2,.int .u64 a3,.slice sp sn sc,.int .i64 lo,.int .i64 hi]:=(z1s (z1s (z55 (z55 (z55 (z55 (z55 (z55 (z55 (z55 (z55 (z55 (z55 (z55 (z55 (z55 (z55 (z55 H0.out 0 _) 1 _) 2 _) 3 _) 4 _) 5 _) 6 _) 7 _) 0 _) 1 _) 2 _) 3 _) 4 _) 5 _) 6 _) 7 _) p2 0 _) p2 1 _)
 have k1:Cl (((((((((((((((((((w2).setCell { block:=w.heap.size,off:=0 } (Value.int IntKind.i64 k)).setCell { block:=w.heap.size,off:=1 } (Value.int IntKind.u64 a0)).setCell { block:=w.heap.size,off:=2 } (Value.int IntKind.u64 a1)).setCell { block:=w.heap.size,off:=3 } (Value.int IntKind.u64 a2)).setCell { block:=w.heap.size,off:=4 } (Value.int IntKind.u64 a3)).setCell { block:=w.heap.size,off:=5 } (Value.slice sp sn sc)).setCell { block:=w.heap.size,off:=6 } (Value.int IntKind.i64 lo)).setCell { block:=w.heap.size,off:=7 } (Value.int IntKind.i64 hi)).setCell { block:=w.heap.size,off:=0 } (Value.int IntKind.i64 k)).setCell { block:=w.heap.size,off:=1 } (Value.int IntKind.u64 a0)).setCell { block:=w.heap.size,off:=2 } (Value.int IntKind.u64 a1)).setCell { block:=w.heap.size,off:=3 } (Value.int IntKind.u64 a2)).setCell { block:=w.heap.size,off:=4 } (Value.int IntKind.u64 a3)).setCell { block:=w.heap.size,off:=5 } (Value.slice sp sn sc)).setCell { block:=w.heap.size,off:=6 } (Value.int IntKind.i64 lo)).setCell { block:=w.heap.size,off:=7 } (Value.int IntKind.i64 hi)).setCell { block:=w.heap.size+1,off:=0 } (Value.int IntKind.i64 0)).setCell { block:=w.heap.size+1,off:=1 } (Value.int IntKind.i64 0)) (w.heap.size+1) [.int .i64 0,.int .i64 0]:=(z55 (z55 (z1s (z1s (z1s (z1s (z1s (z1s (z1s (z1s (z1s (z1s (z1s (z1s (z1s (z1s (z1s (z1s H1.out p2.symm 0 _) p2.symm 1 _) p2.symm 2 _) p2.symm 3 _) p2.symm 4 _) p2.symm 5 _) p2.symm 6 _) p2.symm 7 _) p2.symm 0 _) p2.symm 1 _) p2.symm 2 _) p2.symm 3 _) p2.symm 4 _) p2.symm 5 _) p2.symm 6 _) p2.symm 7 _) 0 _) 1 _)
 have k2:PsW w S S' (((((((((((((((((((w2).setCell { block:=w.heap.size,off:=0 } (Value.int IntKind.i64 k)).setCell { block:=w.heap.size,off:=1 } (Value.int IntKind.u64 a0)).setCell { block:=w.heap.size,off:=2 } (Value.int IntKind.u64 a1)).setCell { block:=w.heap.size,off:=3 } (Value.int IntKind.u64 a2)).setCell { block:=w.heap.size,off:=4 } (Value.int IntKind.u64 a3)).setCell { block:=w.heap.size,off:=5 } (Value.slice sp sn sc)).setCell { block:=w.heap.size,off:=6 } (Value.int IntKind.i64 lo)).setCell { block:=w.heap.size,off:=7 } (Value.int IntKind.i64 hi)).setCell { block:=w.heap.size,off:=0 } (Value.int IntKind.i64 k)).setCell { block:=w.heap.size,off:=1 } (Value.int IntKind.u64 a0)).setCell { block:=w.heap.size,off:=2 } (Value.int IntKind.u64 a1)).setCell { block:=w.heap.size,off:=3 } (Value.int IntKind.u64 a2)).setCell { block:=w.heap.size,off:=4 } (Value.int IntKind.u64 a3)).setCell { block:=w.heap.size,off:=5 } (Value.slice sp sn sc)).setCell { block:=w.heap.size,off:=6 } (Value.int IntKind.i64 lo)).setCell { block:=w.heap.size,off:=7 } (Value.int IntKind.i64 hi)).setCell { block:=w.heap.size+1,off:=0 } (Value.int IntKind.i64 0)).setCell { block:=w.heap.size+1,off:=1 } (Value.int IntKind.i64 0)):=by
  have HQ:=HP.out;have hn0:w.heap.size<=w.heap.size:=Nat.le_refl _;have hn1:w.heap.size<=w.heap.size+1:=by omega
  exact ((((((((((((((((((HQ.setCell hn0 hs0).setCell hn0 hs0).setCell hn0 hs0).setCell hn0 hs0).setCell hn0 hs0).setCell hn0 hs0).setCell hn0 hs0).setCell hn0 hs0).setCell hn0 hs0).setCell hn0 hs0).setCell hn0 hs0).setCell hn0 hs0).setCell hn0 hs0).setCell hn0 hs0).setCell hn0 hs0).setCell hn0 hs0).setCell hn1 hs1).setCell hn1 hs1)
 clear c00 z00 c01 z01 c02 z02 c03 z03 c04 z04 c05 z05 c06 z06 c07 z07 c10 z10 c11 z11;generalize (((((((((((((((((((w2).setCell { block:=w.heap.size,off:=0 } (Value.int IntKind.i64 k)).setCell { block:=w.heap.size,off:=1 } (Value.int IntKind.u64 a0)).setCell { block:=w.heap.size,off:=2 } (Value.int IntKind.u64 a1)).setCell { block:=w.heap.size,off:=3 } (Value.int IntKind.u64 a2)).setCell { block:=w.heap.size,off:=4 } (Value.int IntKind.u64 a3)).setCell { block:=w.heap.size,off:=5 } (Value.slice sp sn sc)).setCell { block:=w.heap.size,off:=6 } (Value.int IntKind.i64 lo)).setCell { block:=w.heap.size,off:=7 } (Value.int IntKind.i64 hi)).setCell { block:=w.heap.size,off:=0 } (Value.int IntKind.i64 k)).setCell { block:=w.heap.size,off:=1 } (Value.int IntKind.u64 a0)).setCell { block:=w.heap.size,off:=2 } (Value.int IntKind.u64 a1)).setCell { block:=w.heap.size,off:=3 } (Value.int IntKind.u64 a2)).setCell { block:=w.heap.size,off:=4 } (Value.int IntKind.u64 a3)).setCell { block:=w.heap.size,off:=5 } (Value.slice sp sn sc)).setCell { block:=w.heap.size,off:=6 } (Value.int IntKind.i64 lo)).setCell { block:=w.heap.size,off:=7 } (Value.int IntKind.i64 hi)).setCell { block:=w.heap.size+1,off:=0 } (Value.int IntKind.i64 0)).setCell { block:=w.heap.size+1,off:=1 } (Value.int IntKind.i64 0))=W3 at *;refine leaves_cons (f:=35) (args:=#[.pointer (some ⟨w.heap.size,0,none⟩),.pointer (some ⟨w.heap.size+1,0,none⟩)]) (by simp) (by simp[go_sem]) ?_;refine ps_idle.mono ?_;rintro r u w5 ⟨⟨v,rfl⟩,rfl,rfl⟩;have m0:=zj4 k0 (Obj.cells #[Value.int IntKind.i64 0,Value.int IntKind.i64 0] 40);have m1:=zj4 k1 (Obj.cells #[Value.int IntKind.i64 0,Value.int IntKind.i64 0] 40);have e00:=(m0 0 _ rfl).1;have e01:=(m0 1 _ rfl).1;have e02:=(m0 2 _ rfl).1;have e03:=(m0 3 _ rfl).1;have e04:=(m0 4 _ rfl).1;have e05:=(m0 5 _ rfl).1;have e06:=(m0 6 _ rfl).1;have e07:=(m0 7 _ rfl).1;have e10:=(m1 0 _ rfl).1;have e11:=(m1 1 _ rfl).1;refine⟨_,?_,_,S',rfl,HF.out,k2.alloc _ _⟩;clear k0 k1 k2 m0 m1 hmf;simp[results,Go.Proofs.Tryd.results13,go_sem,e00,e01,e02,e03,e04,e05,e06,e07,e10,e11]
set_option maxHeartbeats 16000000 in
theorem z1f0 {w:World}{s:List UInt8}{S:Hp}{e a:Int}(hlen:¬ (256:Int)<s.length)(hs0:S (w.heap.size)=none)(hs1:S (w.heap.size+1)=none)
 (hc:Calls Go.Proofs.Tryd.prog 36 #[.pointer (some ⟨w.heap.size+1+1,0,none⟩)] (((w.alloc (Obj.cells #[Value.int IntKind.i64 0,Value.int IntKind.u64 0,Value.int IntKind.u64 0,Value.int IntKind.u64 0,Value.int IntKind.u64 0,Value.slice none 0 0,Value.int IntKind.i64 0,Value.int IntKind.i64 0] 27)).alloc (Obj.cells #[Value.int IntKind.i64 0,Value.int IntKind.i64 0] 40)).alloc (Obj.cells #[Value.string ⟨⟨s⟩⟩,Value.int IntKind.i64 0,Value.int IntKind.i64 0] 69)) fun r w2=>r=.panicked [{ v:=.iface 40 (.agg #[.int .i64 e,.int .i64 a]),recovered:=false }]/\Cl w2 (w.heap.size) [.int .i64 0,.int .u64 0,.int .u64 0,.int .u64 0,.int .u64 0,.slice none 0 0,.int .i64 0,.int .i64 0]/\Cl w2 (w.heap.size+1) [.int .i64 0,.int .i64 0]/\PsW w S S w2) :
 Calls Go.Proofs.Tryd.prog 13 #[.string ⟨⟨s⟩⟩] w fun r w'=>r=.returned (.tuple #[.agg #[Value.int IntKind.i64 0,Value.int IntKind.u64 0,Value.int IntKind.u64 0,Value.int IntKind.u64 0,Value.int IntKind.u64 0,Value.slice none 0 0,Value.int IntKind.i64 0,Value.int IntKind.i64 0],.agg #[.int .i64 e,.int .i64 a]])/\PsW w S S w':=by
 have hmf:∀ (fn:Fn) (first cap:Array Value) (w:World),(Instr.makeFunc fn first cap).run Go.Proofs.Tryd.prog w=.ok (.func fn first cap) w:=fun _ _ _ _=>rfl
 have p1:w.heap.size+1+1≠w.heap.size:=by omega
 have p2:w.heap.size+1≠w.heap.size:=by omega
 go_enter_defers Go.Proofs.Tryd.func13,Go.Proofs.Tryd.ntmps13
 go_wp2_with (first
  | (go_at_call 36;refine hc.mono ?_;rintro r w2 ⟨rfl,hC0,hC1,hP⟩;have H0:=Go.Lib.hid hC0;have H1:=Go.Lib.hid hC1;have HP:=Go.Lib.hid hP;clear hc hC0 hC1 hP))
 refine leaves_cons (f:=35) (args:=#[.pointer (some ⟨w.heap.size,0,none⟩),.pointer (some ⟨w.heap.size+1,0,none⟩)]) (by simp) (by simp[go_sem]) ?_;refine (zu2 (R:=fun w'=>Cl w' (w.heap.size) [.int .i64 0,.int .u64 0,.int .u64 0,.int .u64 0,.int .u64 0,.slice none 0 0,.int .i64 0,.int .i64 0]/\Cl w' (w.heap.size+1) [.int .i64 e,.int .i64 a]/\PsW w S S w') (zj4 H0.out _) (zj4 H1.out _) p2.symm (Nat.ne_of_lt (zv2 H0.out)) (Nat.ne_of_lt (zv2 H1.out)) (fun w' g0 g1 g2=>⟨g0,g1,g2 w S S HP.out (Nat.le_refl _) (Nat.le_succ _) hs0 hs1⟩)).mono ?_;rintro r u w5 ⟨⟨v,rfl⟩,rfl,m0,m1,hP5⟩;have e00:=(m0 0 _ rfl).1;have e01:=(m0 1 _ rfl).1;have e02:=(m0 2 _ rfl).1;have e03:=(m0 3 _ rfl).1;have e04:=(m0 4 _ rfl).1;have e05:=(m0 5 _ rfl).1;have e06:=(m0 6 _ rfl).1;have e07:=(m0 7 _ rfl).1;have e10:=(m1 0 _ rfl).1;have e11:=(m1 1 _ rfl).1;clear m0 m1 hmf H0 H1;simp[Leaves,settle,results,Go.Proofs.Tryd.results13,go_sem,e00,e01,e02,e03,e04,e05,e06,e07,e10,e11];exact hP5
set_option maxHeartbeats 16000000 in
theorem z1f1 {w:World}{s:List UInt8}{S:Hp}{at_:Int}(hlen:¬ (256:Int)<s.length)
 (hc:Calls Go.Proofs.Tryd.prog 36 #[.pointer (some ⟨w.heap.size+1+1,0,none⟩)] (((w.alloc (Obj.cells #[Value.int IntKind.i64 0,Value.int IntKind.u64 0,Value.int IntKind.u64 0,Value.int IntKind.u64 0,Value.int IntKind.u64 0,Value.slice none 0 0,Value.int IntKind.i64 0,Value.int IntKind.i64 0] 27)).alloc (Obj.cells #[Value.int IntKind.i64 0,Value.int IntKind.i64 0] 40)).alloc (Obj.cells #[Value.string ⟨⟨s⟩⟩,Value.int IntKind.i64 0,Value.int IntKind.i64 0] 69)) fun r w2=>∃ (k a0 a1 a2 a3 lo hi:Int) (sp:Option Addr) (sn sc:Nat) (S':Hp),r=.returned (.agg #[.int .i64 k,.int .u64 a0,.int .u64 a1,.int .u64 a2,.int .u64 a3,.slice sp sn sc,.int .i64 lo,.int .i64 hi])/\Cl w2 (w.heap.size) [.int .i64 0,.int .u64 0,.int .u64 0,.int .u64 0,.int .u64 0,.slice none 0 0,.int .i64 0,.int .i64 0]/\Cl w2 (w.heap.size+1) [.int .i64 0,.int .i64 0]/\w2.cell? ⟨w.heap.size+1+1,1,none⟩=some (.int .i64 at_)/\S' (w.heap.size)=none/\S' (w.heap.size+1)=none/\PsW w S S' w2)
 (hat:at_<s.length) :
 Calls Go.Proofs.Tryd.prog 13 #[.string ⟨⟨s⟩⟩] w fun r w'=>r=.returned (.tuple #[.agg #[Value.int IntKind.i64 0,Value.int IntKind.u64 0,Value.int IntKind.u64 0,Value.int IntKind.u64 0,Value.int IntKind.u64 0,Value.slice none 0 0,Value.int IntKind.i64 0,Value.int IntKind.i64 0],.agg #[.int .i64 2,.int .i64 at_]])/\∃ S',PsW w S S' w':=by
 have hmf:∀ (fn:Fn) (first cap:Array Value) (w:World),(Instr.makeFunc fn first cap).run Go.Proofs.Tryd.prog w=.ok (.func fn first cap) w:=fun _ _ _ _=>rfl
 have p1:w.heap.size+1+1≠w.heap.size:=by omega
 have p2:w.heap.size+1≠w.heap.size:=by omega
 go_enter_defers Go.Proofs.Tryd.func13,Go.Proofs.Tryd.ntmps13
 go_wp2_with (first
  | (go_at_call 36;refine hc.mono ?_;rintro r w2 ⟨k,a0,a1,a2,a3,lo,hi,sp,sn,sc,S',rfl,hC0,hC1,hat2,hs0,hs1,hP⟩;have c00:=(hC0 0 _ rfl).1;have z00:=(hC0 0 _ rfl).2;have c01:=(hC0 1 _ rfl).1;have z01:=(hC0 1 _ rfl).2;have c02:=(hC0 2 _ rfl).1;have z02:=(hC0 2 _ rfl).2;have c03:=(hC0 3 _ rfl).1;have z03:=(hC0 3 _ rfl).2;have c04:=(hC0 4 _ rfl).1;have z04:=(hC0 4 _ rfl).2;have c05:=(hC0 5 _ rfl).1;have z05:=(hC0 5 _ rfl).2;have c06:=(hC0 6 _ rfl).1;have z06:=(hC0 6 _ rfl).2;have c07:=(hC0 7 _ rfl).1;have z07:=(hC0 7 _ rfl).2;have c10:=(hC1 0 _ rfl).1;have z10:=(hC1 0 _ rfl).2;have c11:=(hC1 1 _ rfl).1;have z11:=(hC1 1 _ rfl).2;have hl0:w.heap.size<w2.heap.size:=zv2 hC0;have hl1:w.heap.size+1<w2.heap.size:=zv2 hC1;have H0:=Go.Lib.hid hC0;have H1:=Go.Lib.hid hC1;have HP:=Go.Lib.hid hP;clear hc hC0 hC1 hP)
  | (go_at_call 37;refine fail_walk.mono ?_;rintro r w3 ⟨rfl,rfl⟩))
 have k0:Cl (((((((((w2).setCell { block:=w.heap.size,off:=0 } (Value.int IntKind.i64 k)).setCell { block:=w.heap.size,off:=1 } (Value.int IntKind.u64 a0)).setCell { block:=w.heap.size,off:=2 } (Value.int IntKind.u64 a1)).setCell { block:=w.heap.size,off:=3 } (Value.int IntKind.u64 a2)).setCell { block:=w.heap.size,off:=4 } (Value.int IntKind.u64 a3)).setCell { block:=w.heap.size,off:=5 } (Value.slice sp sn sc)).setCell { block:=w.heap.size,off:=6 } (Value.int IntKind.i64 lo)).setCell { block:=w.heap.size,off:=7 } (Value.int IntKind.i64 hi)) (w.heap.size) [.int .i64 k,.int .u64 a0,.int .u64 a1,.int .u64 a2,.int .u64 a3,.slice sp sn sc,.int .i64 lo,.int .i64 hi]:=(z55 (z55 (z55 (z55 (z55 (z55 (z55 (z55 H0.out 0 _) 1 _) 2 _) 3 _) 4 _) 5 _) 6 _) 7 _)
 have k1:Cl (((((((((w2).setCell { block:=w.heap.size,off:=0 } (Value.int IntKind.i64 k)).setCell { block:=w.heap.size,off:=1 } (Value.int IntKind.u64 a0)).setCell { block:=w.heap.size,off:=2 } (Value.int IntKind.u64 a1)).setCell { block:=w.heap.size,off:=3 } (Value.int IntKind.u64 a2)).setCell { block:=w.heap.size,off:=4 } (Value.int IntKind.u64 a3)).setCell { block:=w.heap.size,off:=5 } (Value.slice sp sn sc)).setCell { block:=w.heap.size,off:=6 } (Value.int IntKind.i64 lo)).setCell { block:=w.heap.size,off:=7 } (Value.int IntKind.i64 hi)) (w.heap.size+1) [.int .i64 0,.int .i64 0]:=(z1s (z1s (z1s (z1s (z1s (z1s (z1s (z1s H1.out p2.symm 0 _) p2.symm 1 _) p2.symm 2 _) p2.symm 3 _) p2.symm 4 _) p2.symm 5 _) p2.symm 6 _) p2.symm 7 _)
 have k2:PsW w S S' (((((((((w2).setCell { block:=w.heap.size,off:=0 } (Value.int IntKind.i64 k)).setCell { block:=w.heap.size,off:=1 } (Value.int IntKind.u64 a0)).setCell { block:=w.heap.size,off:=2 } (Value.int IntKind.u64 a1)).setCell { block:=w.heap.size,off:=3 } (Value.int IntKind.u64 a2)).setCell { block:=w.heap.size,off:=4 } (Value.int IntKind.u64 a3)).setCell { block:=w.heap.size,off:=5 } (Value.slice sp sn sc)).setCell { block:=w.heap.size,off:=6 } (Value.int IntKind.i64 lo)).setCell { block:=w.heap.size,off:=7 } (Value.int IntKind.i64 hi)):=((((((((HP.out.setCell (Nat.le_refl _) hs0).setCell (Nat.le_refl _) hs0).setCell (Nat.le_refl _) hs0).setCell (Nat.le_refl _) hs0).setCell (Nat.le_refl _) hs0).setCell (Nat.le_refl _) hs0).setCell (Nat.le_refl _) hs0).setCell (Nat.le_refl _) hs0)
 clear c00 z00 c01 z01 c02 z02 c03 z03 c04 z04 c05 z05 c06 z06 c07 z07 c10 z10 c11 z11;generalize (((((((((w2).setCell { block:=w.heap.size,off:=0 } (Value.int IntKind.i64 k)).setCell { block:=w.heap.size,off:=1 } (Value.int IntKind.u64 a0)).setCell { block:=w.heap.size,off:=2 } (Value.int IntKind.u64 a1)).setCell { block:=w.heap.size,off:=3 } (Value.int IntKind.u64 a2)).setCell { block:=w.heap.size,off:=4 } (Value.int IntKind.u64 a3)).setCell { block:=w.heap.size,off:=5 } (Value.slice sp sn sc)).setCell { block:=w.heap.size,off:=6 } (Value.int IntKind.i64 lo)).setCell { block:=w.heap.size,off:=7 } (Value.int IntKind.i64 hi))=W3 at *;refine leaves_cons (f:=35) (args:=#[.pointer (some ⟨w.heap.size,0,none⟩),.pointer (some ⟨w.heap.size+1,0,none⟩)]) (by simp) (by simp[go_sem]) ?_;refine (zu2 (R:=fun w'=>Cl w' (w.heap.size) [.int .i64 0,.int .u64 0,.int .u64 0,.int .u64 0,.int .u64 0,.slice none 0 0,.int .i64 0,.int .i64 0]/\Cl w' (w.heap.size+1) [.int .i64 2,.int .i64 at_]/\PsW w S S' w') (zj4 k0 _) (zj4 k1 _) p2.symm (Nat.ne_of_lt (zv2 k0)) (Nat.ne_of_lt (zv2 k1)) (fun w' g0 g1 g2=>⟨g0,g1,g2 w S S' k2 (Nat.le_refl _) (Nat.le_succ _) hs0 hs1⟩)).mono ?_;rintro r u w5 ⟨⟨v,rfl⟩,rfl,m0,m1,hP5⟩;have e00:=(m0 0 _ rfl).1;have e01:=(m0 1 _ rfl).1;have e02:=(m0 2 _ rfl).1;have e03:=(m0 3 _ rfl).1;have e04:=(m0 4 _ rfl).1;have e05:=(m0 5 _ rfl).1;have e06:=(m0 6 _ rfl).1;have e07:=(m0 7 _ rfl).1;have e10:=(m1 0 _ rfl).1;have e11:=(m1 1 _ rfl).1;clear m0 m1 hmf k0 k1 H0 H1;simp[Leaves,settle,results,Go.Proofs.Tryd.results13,go_sem,e00,e01,e02,e03,e04,e05,e06,e07,e10,e11];exact⟨S',hP5⟩
theorem zyt {S:Hp}{y:NodT.den}{v:Value}(h:VR S NodT y v):∃ (k a0 a1 a2 a3 lo hi:Int) (sp:Option Addr) (sn sc:Nat),v=.agg #[.int .i64 k,.int .u64 a0,.int .u64 a1,.int .u64 a2,.int .u64 a3,.slice sp sn sc,.int .i64 lo,.int .i64 hi]:=by
 unfold VR at h;simp only[T.isAgg,if_true] at h;obtain⟨cs,e,h⟩:=h;obtain⟨c1,d1,e1,h1,c2,d2,e2,h2,c3,d3,e3,h3,c4,d4,e4,h4,c5,d5,e5,h5,h6⟩:=h;have h1:c1=[.int .i64 y.1]:=h1;have h4:c4=[.int .i64 y.2.2.2.1]:=h4;have h5:c5=[.int .i64 y.2.2.2.2.1]:=h5;have h6:d5=[]:=h6;obtain⟨hl,ha⟩:=h2;obtain⟨sp,sc,h3,_⟩:=h3;obtain⟨k,arr,sl,lo,hi,u⟩:=y
 match arr,hl with
 | [a0,a1,a2,a3],_ =>
   obtain⟨q0,r0,f0,g0,q1,r1,f1,g1,q2,r2,f2,g2,q3,r3,f3,g3,g4⟩:=ha;have g0:q0=[.int .u64 a0]:=g0;have g1:q1=[.int .u64 a1]:=g1;have g2:q2=[.int .u64 a2]:=g2;have g3:q3=[.int .u64 a3]:=g3;have g4:r3=[]:=g4;refine⟨k,a0,a1,a2,a3,lo,hi,sp,List.length sl,sc,?_⟩;rw[e];congr 1;apply Array.toList_inj.1;rw[e1,h1,e2,f0,g0,f1,g1,f2,g2,f3,g3,g4,e3,h3,e4,h4,e5,h5,h6];rfl
abbrev z187:T:=.pair (.int .i64) (.pair (.int .i64) .unit)
def z1iu:NodT.den:=((0:Int),(([(0:Int),0,0,0]:List Int),(([]:List Go.Lift.Tree),((0:Int),((0:Int),())))))
theorem zvk (S:Hp):VR S NodT z1iu (.agg #[Value.int IntKind.i64 0,Value.int IntKind.u64 0,Value.int IntKind.u64 0,Value.int IntKind.u64 0,Value.int IntKind.u64 0,Value.slice none 0 0,Value.int IntKind.i64 0,Value.int IntKind.i64 0]):=(z189 (t:=NodT) (x:=z1iu) rfl).mono (zcx _)
theorem zy0 (S:Hp)(e a:Int):VR S z187 (e,a,()) (.agg #[.int .i64 e,.int .i64 a]):=(z189 (t:=z187) (x:=(e,a,())) rfl).mono (zcx _)
def zdx (N:Nat)(s:List UInt8):Option (z49 [NodT,z187]) :=
 cond (decide ((256:Int)<s.length))
 (some (z1iu,((3,256,()),())))
 (orP (z1o N (s,(0,(0,())))) (fun z=>some (z1iu,(z,())))
 ((zo N (s,(0,(0,())))).bind fun y =>
 cond (decide (y.2.1.2.1<(s.length:Int)))
 (some (z1iu,((2,y.2.1.2.1,()),())))
 (some (y.1,((0,0,()),())))))
def zi0 (N:Nat):List A->Res:=zy [(0,.v .str)] (fun x=>zdx N x.1) (z6e (.tup [NodT,z187]) 1)
theorem z1qp {w:World}{n:Nat}{cs:Array Value}{E:Nat}(h:w.heap[n]?=some (.cells cs E (0,0))):Cl w n cs.toList:=by
 intro i v hi;have hi':cs[i]?=some v:=by rw[<- Array.getElem?_toList];exact hi
 constructor
 . simp[World.cell?,h,hi']
 . simp[World.frozen?,h]
def psW (w:World)(s:List UInt8):World:=((w.alloc (Obj.cells #[Value.int IntKind.i64 0,Value.int IntKind.u64 0,Value.int IntKind.u64 0,Value.int IntKind.u64 0,Value.int IntKind.u64 0,Value.slice none 0 0,Value.int IntKind.i64 0,Value.int IntKind.i64 0] 27)).alloc (Obj.cells #[Value.int IntKind.i64 0,Value.int IntKind.i64 0] 40)).alloc (Obj.cells #[Value.string ⟨⟨s⟩⟩,Value.int IntKind.i64 0,Value.int IntKind.i64 0] 69)
theorem zu3 (w:World)(s:List UInt8):(psW w s).heap.size=w.heap.size+3/\(psW w s).heap[w.heap.size]?=some (.cells #[Value.int IntKind.i64 0,Value.int IntKind.u64 0,Value.int IntKind.u64 0,Value.int IntKind.u64 0,Value.int IntKind.u64 0,Value.slice none 0 0,Value.int IntKind.i64 0,Value.int IntKind.i64 0] 27 (0,0))/\(psW w s).heap[w.heap.size+1]?=some (.cells #[Value.int IntKind.i64 0,Value.int IntKind.i64 0] 40 (0,0)) ∧
 (psW w s).heap[w.heap.size+1+1]?=some (.cells #[Value.string ⟨⟨s⟩⟩,Value.int IntKind.i64 0,Value.int IntKind.i64 0] 69 (0,0))/\(∀ k,k<w.heap.size->(psW w s).heap[k]?=w.heap[k]?) ∧
 (psW w s).tape=w.tape/\(psW w s).os=w.os/\(psW w s).output=w.output:=by
 have hh:(psW w s).heap=((w.heap.push (.cells #[Value.int IntKind.i64 0,Value.int IntKind.u64 0,Value.int IntKind.u64 0,Value.int IntKind.u64 0,Value.int IntKind.u64 0,Value.slice none 0 0,Value.int IntKind.i64 0,Value.int IntKind.i64 0] 27 (0,0))).push (.cells #[Value.int IntKind.i64 0,Value.int IntKind.i64 0] 40 (0,0))).push (.cells #[Value.string ⟨⟨s⟩⟩,Value.int IntKind.i64 0,Value.int IntKind.i64 0] 69 (0,0)):=rfl;refine⟨by rw[hh];simp,?_,?_,?_,fun k hk=>?_,rfl,rfl,rfl⟩
 . rw[hh,Array.getElem?_push,if_neg (by simp;omega),Array.getElem?_push,if_neg (by simp),Array.getElem?_push,if_pos rfl]
 . rw[hh,Array.getElem?_push,if_neg (by simp),Array.getElem?_push,if_pos (by simp)]
 . rw[hh,Array.getElem?_push,if_pos (by simp)]
 . rw[hh,Array.getElem?_push,if_neg (by simp;omega),Array.getElem?_push,if_neg (by simp;omega),Array.getElem?_push,if_neg (by omega)]
theorem z19c {w:World}{s:List UInt8}{S:Hp}(hS:Lift.Sub S (hp w)):ArgsRel (hp (psW w s)) S [.box PrsT (s,(0,(0,())))] [.pointer (some ⟨w.heap.size+1+1,0,none⟩)] (fun i=>if i=0 then [w.heap.size+1+1] else [])/\Lift.Sub S (hp (psW w s)):=by
 obtain⟨f1,f2,f3,f4,f5,_⟩:=zu3 w s;have hsub:Lift.Sub S (hp (psW w s)):=fun k q hk=>by
  have:=hS k q hk;simp only[hp] at this ⊢;rw[f5 k (z72 (hS k q hk))];exact this
 refine⟨zt6 (w:=psW w s) (args:=[]) (vals:=[]) ?_ (by simp) (fun k hk=>?_) ⟨rfl,fun i x h=>(by cases h),fun _ _=>rfl,fun i j b hb=>(by cases hb),fun _=>.nil,fun i b hb=>(by cases hb)⟩,hsub⟩
 . refine⟨w.heap.size+1+1,_,_,_,[],rfl,rfl,f4,zif _,RdO.of_rd PrsT _ _ ?_⟩;exact⟨[.string ⟨⟨s⟩⟩],_,rfl,rfl,[.int .i64 0],_,rfl,rfl,[.int .i64 0],[],rfl,rfl,rfl⟩
 . have:k=w.heap.size+1+1:=by simpa using hk
   subst this;cases hx:S (w.heap.size+1+1) with
   | none=>rfl
   | some o=>exact absurd (z72 (hS _ _ hx)) (by omega)
theorem zs5 {w:World}{S:Hp}(hS:Lift.Sub S (hp w)){k:Nat}(hk:w.heap.size<=k):S k=none:=by
 cases hx:S k with
 | none=>rfl
 | some o=>exact absurd (z72 (hS _ _ hx)) (by omega)
theorem zym {w w2:World}{s:List UInt8}{S S':Hp}(hS:Lift.Sub S (hp w))(hwf:WF (psW w s) (fun b=>∃ i,b∈(fun i=>if i=0 then [w.heap.size+1+1] else []) i) w2)(hSS:Lift.Sub S S')(hSw:Lift.Sub S' (hp w2))
 (hnew:∀ b,S' b≠none->S b≠none\/b=w.heap.size+1+1\/(psW w s).heap.size<=b) :
 Cl w2 w.heap.size [.int .i64 0,.int .u64 0,.int .u64 0,.int .u64 0,.int .u64 0,.slice none 0 0,.int .i64 0,.int .i64 0]/\Cl w2 (w.heap.size+1) [.int .i64 0,.int .i64 0]/\S' w.heap.size=none/\S' (w.heap.size+1)=none/\PsW w S S' w2:=by
 obtain⟨f1,f2,f3,f4,f5,f6,f7,f8⟩:=zu3 w s;have hin:∀ k,(∃ i,k∈(fun i=>if i=0 then [w.heap.size+1+1] else []) i)->k=w.heap.size+1+1:=by
  rintro k ⟨i,hi⟩;by_cases hi0:i=0
  . simpa[hi0] using hi
  . simp[hi0] at hi
 have g0:=hwf.same w.heap.size (by omega) (fun h=>by have:=hin _ h;omega);have g1:=hwf.same (w.heap.size+1) (by omega) (fun h=>by have:=hin _ h;omega);rw[f2] at g0;rw[f3] at g1;refine⟨z1qp g0,z1qp g1,?_,?_,⟨by have:=hwf.size;omega,fun k hk _=>?_,hwf.tape.trans f6,hwf.os.trans f7,hwf.output.trans f8⟩,hSS,hSw,fun k hk=>?_⟩
 . cases hx:S' w.heap.size with
   | none=>rfl
   | some o =>
     rcases hnew _ (by rw[hx];simp) with h|h|h
     . exact absurd (zs5 hS (Nat.le_refl _)) h
     . omega
     . omega
 . cases hx:S' (w.heap.size+1) with
   | none=>rfl
   | some o =>
     rcases hnew _ (by rw[hx];simp) with h|h|h
     . exact absurd (zs5 hS (by omega)) h
     . omega
     . omega
 . rw[hwf.same k (by omega) (fun h=>by have:=hin _ h;omega),f5 k hk]
 . rcases hnew k hk with h|h|h
   . exact .inl h
   . exact .inr (by omega)
   . exact .inr (by omega)
theorem z1f2 {w:World}{S:Hp}{x:PrsT.den}{b:Nat}{o:List Nat}(h:ARel (hp w) S (fun _=>undef) (.box PrsT x) (.pointer (some ⟨b,0,none⟩)) o):w.cell? ⟨b,1,none⟩=some (.int .i64 x.2.1):=by
 obtain⟨b',cs,E,fr,bs,e,e',hb,hf,hr⟩:=h;cases e';obtain⟨_,c1,d1,hc,h1,c2,d2,hc2,h2,h3⟩:=RdO.rd PrsT x _ _ rfl hr;have k1:c1=[.string ⟨⟨x.1⟩⟩]:=h1;have k2:c2=[.int .i64 x.2.1]:=h2;have:cs[1]?=some (.int .i64 x.2.1):=by
  rw[<- Array.getElem?_toList,hc,k1,hc2,k2];rfl
 have hb:w.heap[b]?=some (.cells cs E fr):=hb;simp[World.cell?,hb,this]
theorem zs6 {w w':World}{s:List UInt8}{S S':Hp}{ob:Nat->List Nat}{y:z49 [NodT,z187]}{v1 v2:Value}(hob:∀ i,ob i=[])(hP:PsW w S S' w')(h1:VR S' NodT y.1 v1)(h2:VR S' z187 y.2.1 v2) :
 Lift.Ends w S (mkS [(0,.v .str)] 0 (s,())) [.string ⟨⟨s⟩⟩] ob (z6e (.tup [NodT,z187]) 1 y).1 (z6e (.tup [NodT,z187]) 1 y).2 (.returned (.tuple #[v1,v2])) w':=by
 obtain⟨k1,k2,k3,k4⟩:=hP;refine⟨_,S',[],ob,rfl,⟨k1.size,fun k hk _=>k1.same k hk (fun h=>h),k1.tape,k1.os,k1.output⟩,k2,k3,fun k hk=>?_,⟨⟨rfl,_,rfl,.cons h1 (.cons h2 .nil)⟩,rfl⟩,(fun k hk=>by cases hk),.nil,?_,?_,?_,?_,fun _ h=>h⟩
 . rcases k4 k hk with h|h
   . exact .inl h
   . exact .inr (.inr h)
 . intro i x hx hbx
   match i with
   | 0=>simp[mkS,zbk,AS.mk] at hx;subst hx;simp[zco] at hbx
   | i+1=>simp[mkS,zbk] at hx
 . intro i k hk;rw[hob i] at hk;cases hk
 . intro i j k hi;rw[hob i] at hi;cases hi
 . intro i;rw[hob i];exact .nil
theorem zq8 (N:Nat):Contract Go.Proofs.Tryd.prog glob 13 (zi0 N):=by
 refine Contract.hand ⟨_,Go.Proofs.Tryd.func13,by kernel_rfl,by decide⟩ ?_;intro w S vals ob x y har hS hg hy;obtain⟨s,u⟩:=x;cases u;have hob:∀ i,ob i=[]:=by
  intro i;rcases i with _|i
  . obtain⟨⟨v,hv,hA⟩,_⟩:=har.rel 0 _ rfl;exact hA.2
  . exact har.out _ (by simp[mkS,zbk])
 have hvals:vals=[.string ⟨⟨s⟩⟩]:=by
  have hlen:=har.len;obtain⟨⟨v0,hv0,hA0⟩,_⟩:=har.rel 0 _ rfl;have e0:v0=.string ⟨⟨s⟩⟩:=VR.str_inv hA0.1
  match vals,hlen with
  | [a],_=>cases hv0;rw[e0]
 subst hvals;have hy:zdx N s=some y:=hy;unfold zdx at hy;by_cases hlen:(256:Int)<s.length
 . rw[decide_eq_true hlen] at hy;cases hy;refine (z19b hS hlen).mono ?_;rintro r w' ⟨rfl,hP⟩;exact zs6 hob hP (zvk _) (zy0 _ _ _)
 . rw[decide_eq_false hlen] at hy;simp only[cond_false] at hy;obtain⟨hA,hSB⟩:=z19c (s:=s) hS;rcases zsc hy with⟨z,hz,hK⟩|⟨_,hK⟩
   . cases hK;have hc:=(z5b N).2 (psW w s) S _ _ _ hA hSB hg z hz;refine (z1f0 hlen (zs5 hS (Nat.le_refl _)) (zs5 hS (Nat.le_succ _)) (e:=z.1) (a:=z.2.1) (hc.mono ?_)).mono ?_
     . rintro e w2 ⟨rfl,hwf,hsub⟩;obtain⟨q1,q2,q3,q4,q5⟩:=zym hS hwf (Lift.Sub.refl S) hsub (fun b hb=>.inl hb);exact⟨rfl,q1,q2,q5⟩
     . rintro r w' ⟨rfl,hP⟩;obtain⟨z1,z2,u⟩:=z;exact zs6 hob hP (zvk _) (zy0 _ _ _)
   . obtain⟨q,hq,hK⟩:=Option.bind_eq_some_iff.1 hK;have hc:=(z2l N).2 (psW w s) S _ _ _ hA hSB hg q hq;have key:∀ e w2,Lift.Ends (psW w s) S [.box PrsT (s,(0,(0,())))] [.pointer (some ⟨w.heap.size+1+1,0,none⟩)] (fun i=>if i=0 then [w.heap.size+1+1] else []) (.v NodT q.1) [.box PrsT q.2.1] e w2 →
      ∃ v S',e=.returned v/\VR S' NodT q.1 v/\Cl w2 w.heap.size [.int .i64 0,.int .u64 0,.int .u64 0,.int .u64 0,.int .u64 0,.slice none 0 0,.int .i64 0,.int .i64 0]/\Cl w2 (w.heap.size+1) [.int .i64 0,.int .i64 0]/\w2.cell? ⟨w.heap.size+1+1,1,none⟩=some (.int .i64 q.2.1.2.1)/\S' w.heap.size=none/\S' (w.heap.size+1)=none/\PsW w S S' w2:=by
      rintro e w2 ⟨v,S',o,ob',rfl,hwf,hSS,hSw,hnew,⟨hr,_⟩,_,_,hbox,_⟩;obtain⟨x2,v2,g1,g2,_,g4⟩:=hbox 0 _ rfl rfl;simp at g1 g2;subst g1;subst g2;obtain⟨q1,q2,q3,q4,q5⟩:=zym hS hwf hSS hSw (fun b hb=>by
       rcases hnew b hb with h|⟨i,hi⟩|h
       . exact .inl h
       . by_cases hi0:i=0
         . simp[hi0] at hi;exact .inr (.inl hi)
         . simp[hi0] at hi
       . exact .inr (.inr h))
      exact⟨v,S',rfl,hr.1,q1,q2,z1f2 g4,q3,q4,q5⟩
     by_cases hat:q.2.1.2.1<(s.length:Int)
     . rw[decide_eq_true hat] at hK;cases hK;refine (z1f1 (S:=S) hlen (at_:=q.2.1.2.1) (hc.mono ?_) hat).mono ?_
       . intro e w2 h;obtain⟨v,S',rfl,hv,q1,q2,q3,q4,q5,q6⟩:=key e w2 h;obtain⟨k,a0,a1,a2,a3,lo,hi,sp,sn,sc,rfl⟩:=zyt hv;exact⟨k,a0,a1,a2,a3,lo,hi,sp,sn,sc,S',rfl,q1,q2,q3,q4,q5,q6⟩
       . rintro r w' ⟨rfl,S',hP⟩;exact zs6 hob hP (zvk _) (zy0 _ _ _)
     . rw[decide_eq_false hat] at hK;cases hK;refine (ps_ok (S:=S) hlen (at_:=q.2.1.2.1) (F:=fun S' v=>VR S' NodT q.1 v) (hc.mono ?_) hat).mono ?_
       . intro e w2 h;obtain⟨v,S',rfl,hv,q1,q2,q3,q4,q5,q6⟩:=key e w2 h;obtain⟨k,a0,a1,a2,a3,lo,hi,sp,sn,sc,rfl⟩:=zyt hv;exact⟨k,a0,a1,a2,a3,lo,hi,sp,sn,sc,S',rfl,q1,q2,q3,q4,q5,q6,hv⟩
       . rintro r w' ⟨v,S',rfl,hv,hP⟩;exact zs6 hob hP hv (zy0 _ _ _)
end
end Go.Proofs.YtnnjnkjfkaaikaaDoorLg
set_option linter.all false
set_option maxRecDepth 100000
namespace Go.Proofs.YtnnjnkjfkaaikaaDoorLg
noncomputable section
open Go Go.Lift Go.Proofs
section
variable {P:Program} {w:World} (a:Addr) (m:Mode)
@[local go_sem] theorem znd (fn:Fn) (x y:Array Value):(store a (.func fn x y) m).run P w=stored P w a (.func fn x y) m:=run_store P w a _ m rfl
end
attribute [local go_sem] znd
theorem z150 {w0 w:World}(h:WF w0 (fun k=>k∈([]:List Nat)) w):WF w0 (fun _=>False) w:=⟨h.size,fun k hk _=>h.same k hk (by simp),h.tape,h.os,h.output⟩
theorem zwc {w0 w:World}{S0:Hp}(hS:Lift.Sub S0 (hp w0))(h:WF w0 (fun _=>False) w):NSt w0 S0 w S0 []:=by
 refine⟨h,Lift.Sub.refl _,fun k o hk=>?_,fun _ h=>.inl h,fun p hp=>by cases hp⟩;have h1:=hS k o hk;simp only[hp] at h1 ⊢;rw[h.same k (Array.getElem?_eq_some_iff.1 h1).1 (fun h=>h)];exact h1
theorem RSt.wf14 {w0 w:World}{S0:Hp}{B O F W:Nat}{st:zin}{X:List (Nat×Array Value×Nat)}(h:RSt w0 S0 B O F W st X w):WF w0 (fun _=>False) w:=by
 obtain⟨⟨S,o,h1,_⟩,_⟩:=h;exact z150 h1
theorem z14f {w0 w:World}{S0 S:Hp}{L:List (Nat×Array Value×Nat)}(h:NSt w0 S0 w S L):BSt z11c w0 S0 [] w.heap.size (w.alloc (.cells #[.pointer none,.slice none 0 0] 46)) ((),(z30 [],())) L:=by
 have hw:=h.alloc #[.pointer none,.slice none 0 0] 46;have hm:=hw.own _ (.head _);simp only at hm;refine⟨S,[w.heap.size],⟨hw.wf.size,fun k hk _=>hw.wf.same k hk (fun h=>h),hw.wf.tape,hw.wf.os,hw.wf.output⟩,hw.sub,hw.inw,fun k hk=>?_,?_,by simp,fun k hk=>?_,fun p hp=>?_⟩
 . rcases hw.new k hk with h|h
   . exact .inl h
   . exact .inr (.inr h)
 . refine⟨w.heap.size,#[.pointer none,.slice none 0 0],46,(0,0),[],rfl,rfl,hm.2.2,?_,?_⟩
   . exact⟨Nat.le_refl _,fun i _ h=>by omega⟩
   . exact⟨[.pointer none],[.slice none 0 0],[],[],rfl,rfl,⟨rfl,_,rfl,rfl,.inl rfl⟩,[.slice none 0 0],[],[],[],rfl,rfl,⟨_,rfl,.inl ⟨rfl,⟨none,rfl,fun _ _=>rfl⟩,rfl⟩⟩,rfl,rfl⟩
 . rw[List.mem_singleton] at hk;subst hk;exact⟨hm.1,.inr hm.2.1⟩
 . obtain⟨p1,p2,p3⟩:=hw.own p (.tail _ hp);refine⟨p1,fun hk=>?_,p2,p3⟩;rw[List.mem_singleton] at hk;have:=(Array.getElem?_eq_some_iff.1 (h.own p hp).2.2).1;omega
theorem z12f {w0 w:World}{S0 S:Hp}{L:List (Nat×Array Value×Nat)}(h:NSt w0 S0 w S L) :
 RSt w0 S0 w.heap.size (w.heap.size+1) (w.heap.size+1+1) (w.heap.size+1+1+1) ([],((0:Int),true)) L
  ((((w.alloc (.cells #[.pointer none,.slice none 0 0] 46)).alloc (.cells #[.int .i64 0] 3)).alloc (.cells #[.bool true] 4)).alloc (.cells #[z14x w.heap.size (w.heap.size+1) (w.heap.size+1+1) (w.heap.size+1+1+1)] 47)):=by
 have h1:=z14f h;have h2:=((h1.alloc #[.int .i64 0] 3).alloc #[.bool true] 4).alloc #[z14x w.heap.size (w.heap.size+1) (w.heap.size+1+1) (w.heap.size+1+1+1)] 47;have s1:(w.alloc (.cells #[.pointer none,.slice none 0 0] 46)).heap.size=w.heap.size+1:=by simp
 have s2:((w.alloc (.cells #[.pointer none,.slice none 0 0] 46)).alloc (.cells #[.int .i64 0] 3)).heap.size=w.heap.size+1+1:=by simp
 have s3:(((w.alloc (.cells #[.pointer none,.slice none 0 0] 46)).alloc (.cells #[.int .i64 0] 3)).alloc (.cells #[.bool true] 4)).heap.size=w.heap.size+1+1+1:=by simp
 rw[s1,s2,s3] at h2;have hlt:∀ p∈L,p.1<w.heap.size:=fun p hp=>(Array.getElem?_eq_some_iff.1 (h.own p hp).2.2).1
 refine⟨h2.swap (fun p hp=>?_),by omega,by omega,by omega,fun p hp=>by have:=hlt p hp;omega⟩;simp only[List.mem_cons] at hp ⊢;rcases hp with h|h|h|h
 . exact .inr (.inr (.inl h))
 . exact .inr (.inl h)
 . exact .inl h
 . exact .inr (.inr (.inr h))
theorem zr1 (s:List UInt8):zsf (z30 s)=true:=by
 unfold zsf z30;rw[List.all_eq_true];intro n hn;obtain⟨b,_,rfl⟩:=List.mem_map.1 hn;have:=b.toNat_lt;simp;omega
theorem zlz (s:List UInt8):zd7 (z30 s)=s:=by
 unfold zd7 z30;rw[List.map_map]
 conv=>rhs;rw[<- List.map_id s]
 apply List.map_congr_left;intro b _;simp
theorem zzm {w0 w:World}{S0:Hp}{B O F W:Nat}{st:zin}{X:List (Nat×Array Value×Nat)}(h:RSt w0 S0 B O F W st X w)(hl:st.1.length<=256) :
 Calls Go.Proofs.Tryd.prog 21 #[.pointer (some ⟨B,0,none⟩)] w fun q w'=>q=.returned (.string ⟨⟨st.1⟩⟩)/\WF w0 (fun _=>False) w':=by
 obtain⟨⟨S,o,h1,h2,h3,h4,h5,h6,h7,_⟩,_⟩:=h;have hy:zti (((),(z30 st.1,())),())=some (st.1,(((),((),())),())):=by
  unfold zti;dsimp only;rw[zr1,show decide _=true from decide_eq_true (by simp[z30];omega),zlz];rfl
 have har:=zt6 h5 h6 (fun k hk=>(h7 k hk).1) (zpz (w:=w) (S:=S));refine ((z172 zey).2 w S _ _ _ har h3 (zgw S) _ hy).mono ?_;rintro e w' ⟨v,S',q,ob',rfl,hwf,hSS,hSw,hnew,⟨hr,_⟩,_⟩;have hin:∀ k,(∃ i,k∈(fun i=>if i=0 then o else []) i)->k∈o:=by
  rintro k ⟨i,hi⟩;by_cases hi0:i=0
  . simpa[hi0] using hi
  . simp[hi0] at hi
 have hv:VR S' .str st.1 v:=hr.1;refine⟨by rw[VR.str_inv hv],⟨Nat.le_trans h1.size hwf.size,fun k hk _=>?_,hwf.tape.trans h1.tape,hwf.os.trans h1.os,hwf.output.trans h1.output⟩⟩;rw[hwf.same k (by have:=h1.size;omega) (fun hh=>by
  rcases (h7 k (hin k hh)).2 with h|h
  . cases h
  . omega)]
 exact h1.same k hk (by simp)
def z6l (N:Nat)(n:NodT.den):Option (List UInt8×(Bool×Unit)) :=
 (z5c N n).bind fun r=>if r=false then some ([],(false,())) else
 (zhl N N n false ([],((0:Int),true))).bind fun st=>if st.2.2=true/\st.1.length<=256 then some (st.1,(true,())) else some ([],(false,()))
def zbn (N:Nat):List A->Res:=zy [(0,.v NodT)] (fun x=>z6l N x.1) (z6e (.tup [.str,.bool]) 1)
set_option maxHeartbeats 30000000 in
theorem zvm (N:Nat) {w:World} {S:Hp} (hS:Lift.Sub S (hp w)) (hg:GlobOk glob S) {n:NodT.den} {nv:Value} (hn:VR S NodT n nv) {y:List UInt8×(Bool×Unit)} (hy:z6l N n=some y) :
 Calls Go.Proofs.Tryd.prog 6 #[nv] w fun q w'=>q=.returned (.tuple #[.string ⟨⟨y.1⟩⟩,.bool y.2.1])/\WF w (fun _=>False) w':=by
 suffices HX:∀ R:Ending->World->Prop,Go.RowKit.Hid (∀ w',WF w (fun _=>False) w'->R (.returned (.tuple #[.string ⟨⟨y.1⟩⟩,.bool y.2.1])) w')->Calls Go.Proofs.Tryd.prog 6 #[nv] w R from HX _ (Go.Lib.hid (fun w' a=>⟨rfl,a⟩))
 intro R HR;obtain⟨r,hr,hy⟩:=Option.bind_eq_some_iff.1 hy;have hn':∃ cs,nv=.agg cs/\Rd S NodT n cs.toList:=hn;obtain⟨cs,rfl,hrd⟩:=hn';obtain⟨a,cap,c0,c1,c2,c3,hcs,hkids⟩:=zkc hrd;obtain rfl:cs=#[.int .i64 n.1,.int .u64 c0,.int .u64 c1,.int .u64 c2,.int .u64 c3,.slice a n.2.2.1.length cap,.int .i64 n.2.2.2.1,.int .i64 n.2.2.2.2.1]:=by
  apply Array.toList_inj.1;rw[hcs]
 have hal:=(NSt.start hS).alloc #[.int .i64 n.1,.int .u64 c0,.int .u64 c1,.int .u64 c2,.int .u64 c3,.slice a n.2.2.1.length cap,.int .i64 n.2.2.2.1,.int .i64 n.2.2.2.2.1] 27;have HRT:=Go.Lib.hid (hal.plain (zjm N) hg (args:=[.v NodT n]) (vals:=[.agg #[.int .i64 n.1,.int .u64 c0,.int .u64 c1,.int .u64 c2,.int .u64 c3,.slice a n.2.2.1.length cap,.int .i64 n.2.2.2.1,.int .i64 n.2.2.2.2.1]]) (zj7 ⟨hn,rfl⟩ rfl) hr);have HG:=Go.Lib.hid hg;have HN:=Go.Lib.hid hn;cases r with
 | false =>
   rw[if_pos rfl] at hy;obtain rfl:=Option.some.inj hy;clear hy hr hg hn hal hrd hcs hkids hS HG HN
   go_enter Go.Proofs.Tryd.func6,Go.Proofs.Tryd.ntmps6
   go_wp2_with (go_at_call 14;refine HRT.out.mono ?_;rintro q1 w1 ⟨v1,S1,o1,rfl,hr1,hs1,hw1⟩;have ev1:=VR.bool_inv hr1.1;subst ev1;have HW1:=Go.Lib.hid hw1;clear hr1 hw1 hs1 HRT)
   exact HR.out _ HW1.out.wf
 | true =>
   rw[if_neg (by decide)] at hy;obtain⟨st,hst,hy⟩:=Option.bind_eq_some_iff.1 hy;have HST:=Go.Lib.hid hst;have HY:=Go.Lib.hid hy;clear hst hy hr hg hn hal hrd hcs hkids hS
   go_enter Go.Proofs.Tryd.func6,Go.Proofs.Tryd.ntmps6
   go_upto_region 9 with (first
    | (go_at_call 14;refine HRT.out.mono ?_;rintro q1 w1 ⟨v1,S1,o1,rfl,hr1,hs1,hw1⟩;have ev1:=VR.bool_inv hr1.1;subst ev1;have h4:=z12f hw1;have y8:=h4.eight (.head _);unfold z14x at y8;have HWR:=Go.Lib.hid (zmt N HG.out N n false _ _ ([],((0:Int),true)) st _ HN.out h4 HST.out);unfold z14x at HWR;clear hr1 hw1 hs1 HRT h4)
    | (go_at_call 15;refine HWR.out.mono ?_;rintro q5 w5 ⟨rfl,hw5⟩;have hF1:=hw5.getF.1;have HW5:=Go.Lib.hid hw5;clear hw5 HWR y8))
   cases hb:st.2.2 with
   | false =>
     rw[hb] at hF1;have hy2:=HY.out;rw[if_neg (by rw[hb];simp)] at hy2;obtain rfl:=Option.some.inj hy2;clear hb hy2 HY
     go_wp2
     exact HR.out _ HW5.out.wf14
   | true =>
     rw[hb] at hF1;have HLN:=Go.Lib.hid (HW5.out.len N);by_cases hl2:st.1.length<=256
     . have hy2:=HY.out;rw[if_pos ⟨hb,hl2⟩] at hy2;obtain rfl:=Option.some.inj hy2;have hl3:¬ ((256:Int)<(st.1.length:Int)):=by omega
       have HL2:=Go.Lib.hid hl2;clear hb hy2 HY hl2
       go_wp2_with (first
        | (go_at_call 17;refine HLN.out.mono ?_;rintro q6 w6 ⟨rfl,hw6⟩;have HSR:=Go.Lib.hid (zzm hw6 HL2.out);clear HLN hw6)
        | (go_at_call 21;refine HSR.out.mono ?_;rintro q7 w7 ⟨rfl,hw7⟩;have HW7:=Go.Lib.hid hw7;clear HSR hw7))
       exact HR.out _ HW7.out
     . have hy2:=HY.out;rw[if_neg (fun h=>hl2 h.2)] at hy2;obtain rfl:=Option.some.inj hy2;have hl3:(256:Int)<(st.1.length:Int):=by omega
       clear hb hy2 HY hl2
       go_wp2_with (go_at_call 17;refine HLN.out.mono ?_;rintro q6 w6 ⟨rfl,hw6⟩;have HW6:=Go.Lib.hid hw6;clear HLN hw6)
       exact HR.out _ HW6.out.wf14
theorem z11x (h S:Hp)(x:List UInt8)(c:Bool):ARel h S (fun _=>undef) (.tup [⟨.str,x⟩,⟨.bool,c⟩]) (.tuple #[.string ⟨⟨x⟩⟩,.bool c]) [] :=
 ⟨rfl,_,rfl,.cons VR.str (.cons VR.bool .nil)⟩
theorem zhx (N:Nat):Contract Go.Proofs.Tryd.prog glob 6 (zbn N):=by
 refine Contract.hand ⟨_,Go.Proofs.Tryd.func6,by kernel_rfl,by decide⟩ ?_;rintro w S vals ob ⟨n,⟨⟩⟩ y har hS hg hy;obtain⟨x,e,⟨⟩⟩:=y;obtain⟨⟨u1,e1,r1⟩,_⟩:=har.rel 0 _ rfl;have hob:∀ i,ob i=[]:=by
  intro i
  match i with
  | 0=>exact r1.2
  | i+1=>exact har.out _ (by simp[mkS,zbk])
 have hvals:vals=[u1]:=by
  match vals,har.len,e1 with
  | [a],_,h1=>simp at h1;rw[h1]
 subst hvals;refine (zvm N hS hg r1.1 hy).mono ?_;rintro q w' ⟨rfl,hg1⟩;refine (zwc hS hg1).ends hob (fun y hy=>?_) (z11x _ _ x e) rfl;have hy:y∈[A.v NodT n]:=hy;rw[List.mem_singleton.1 hy];rfl
end
end Go.Proofs.YtnnjnkjfkaaikaaDoorLg
set_option linter.all false
set_option maxRecDepth 100000
namespace Go.Proofs.YtnnjnkjfkaaikaaDoorLg
noncomputable section
open Go Go.Lift
def zmr:Code:=(Tryd.f12.body).getD .skip
def L_89:List (List Nat×List Nat):=[([0],[1]),([0,1],[1,4,5]),([0,0,1,1],[6,1,4,5]),([0,1,0,1,1],[6,1,4,5]),(z11b,[13,1,6,4,5]),(z11a,[1,6,4,5]),(z1e8,[4,5]),([0,0,0,1,0,0,1,0,1,1],[4,7,8,5,6,1]),(z1e9,[8,5,6,1,4]),([0,1,1,0,0,1,0,0,1,0,1,1],[30,8,6,1,4,5]),([1,1,1,0,0,1,0,0,1,0,1,1],[6,1,4,5]),([0,1,1,1,0,0,1,0,0,1,0,1,1],[6,1,4,5]),(ztb,[6,1,4,5]),(z119,[6,1,4,5]),([1,0,1,1],[4,5]),([0,1,1,1],[2,3]),([1,1,1,1],[2,3])]
def z1tm (N:Nat)(self:DT2->Option (Int×Int×Unit)):Env:=z1d tys glob [(12,zy [(0,.v TT1)] (fun x=>self x.1) (z6e (.tup [(.int .i64),(.int .i64)]) 1))] [] [] [] false [] []
theorem z1rh (N:Nat)(self:DT2->Option (Int×Int×Unit))(hself:Contract Tryd.prog glob 12 (zy [(0,.v TT1)] (fun x=>self x.1) (z6e (.tup [(.int .i64),(.int .i64)]) 1))):EnvOk Tryd.prog (z1tm N self):=zg mixed zn (FnsOk.cons (hself) (FnsOk.nil)) (ItsOk.nil)
def z8t (N:Nat)(self:DT2->Option (Int×Int×Unit))(n:DT2)(all:Int)(deep:Int)(i:Int)(k0:Int->Int->Option (Int×Int×Unit)):Option (Int×Int×Unit) :=
 cond (inR i (List.length n.2.2.1))
 ((self (unN (List.getD n.2.2.1 (Int.toNat i) (Tree.mk (0:Int) ([]:List Int) ([]:List Tree) (0:Int) (0:Int))))).bind fun y =>
 cond (decide (deep<y.2.1))
 (k0 (IntKind.wrap IntKind.i64 (all+y.1)) y.2.1)
 (k0 (IntKind.wrap IntKind.i64 (all+y.1)) deep))
 (none)
def z1o6 (N:Nat)(self:DT2->Option (Int×Int×Unit))(x:zw z1e1)(K:Ex->List A->Option (Int×Int×Unit)):Option (Int×Int×Unit) :=
 z8t N self x.1 x.2.1 x.2.2.1 x.2.2.2.1 (fun a1 a2=>(K .normal (mkS z1e1 28 (x.1,a1,a2,x.2.2.2.1,()))))
def z1kk (N:Nat)(self:DT2->Option (Int×Int×Unit)):Hd (Int×Int×Unit):=fun st K=>(unS z1e1 28 (restr [1,6,4,5] 0 st)).bind fun x=>z1o6 N self x K
def t2_89 (N:Nat)(self:DT2->Option (Int×Int×Unit)):Tab (Int×Int×Unit):=[]
theorem z1gg {N:Nat}{self:DT2->Option (Int×Int×Unit)}{c:Ctx}(hb:Base Tryd.prog (z1tm N self) c):zi Tryd.prog c (zf zmr ztb) (z1kk N self) :=
 zh (s:=z1e1) (m:=28) (g:=z1o6 N self) [1,6,4,5] (ze hb N (t2_89 N self) L_89 zmr TabOk.nil ztb _ rfl) (fun x K=>by kernel_rfl)
def z5d (N:Nat)(self:DT2->Option (Int×Int×Unit))(n:DT2)(all:Int)(deep:Int)(i:Int)(rec:Int->Int->Int->Option (Int×Int×Unit))(k0:Int->Int->Option (Int×Int×Unit)):Option (Int×Int×Unit) :=
 cond (decide (i<(((List.length n.2.2.1):Nat):Int)))
 (z8t N self n all deep i
 (fun all1 deep1=>rec all1 deep1 (IntKind.wrap IntKind.i64 (i+(1:Int)))))
 (k0 all deep)
def ze4 (N:Nat)(self:DT2->Option (Int×Int×Unit))(n:DT2)(all:Int)(deep:Int)(i:Int)(k0:Int->Int->Option (Int×Int×Unit)):Option (Int×Int×Unit) :=
 iter (fun (v:(Int×Int×Int)) r=>z5d N self n v.1 v.2.1 v.2.2 (fun all deep i=>(r (all,deep,i))) k0) N (all,deep,i)
def z1oy (N:Nat)(self:DT2->Option (Int×Int×Unit))(i:DT2)(v:(Int×Int×Int))(r:(Int×Int×Int)->Option (Int×Int×Unit))(K:Ex->List A->Option (Int×Int×Unit)):Option (Int×Int×Unit) :=
 z5d N self i v.1 v.2.1 v.2.2 (fun all deep i=>(r (all,deep,i))) (fun a0 a1=>(K (.exit 0) (mkS [(4,.v (.int .i64)),(0,.v (.int .i64))] 29 (a0,a1,()))))
def z1lc (N:Nat)(self:DT2->Option (Int×Int×Unit)):Hd (Int×Int×Unit):=fun st K=>(unS z1e1 28 (restr [6,1,4,5] 0 st)).bind fun x=>iter (fun v r=>z1oy N self ((fun x=>x.1) x) v r K) N ((fun x=>(x.2.1,x.2.2.1,x.2.2.2.1)) x)
def t1_89 (N:Nat)(self:DT2->Option (Int×Int×Unit)):Tab (Int×Int×Unit):=[(ztb,z1kk N self)]
theorem z1h8 {N:Nat}{self:DT2->Option (Int×Int×Unit)}{c:Ctx}(hb:Base Tryd.prog (z1tm N self) c):zi Tryd.prog c (zf zmr [0,1,0,1,1]) (z1lc N self) :=
 z2p (s:=z1e1) (m:=28) (z1oy N self) [6,1,4,5] N (fun x=>x.1) (fun x=>(x.2.1,x.2.2.1,x.2.2.2.1)) (fun i v=>(i,v.1,v.2.1,v.2.2,())) (fun _=>rfl) (ze hb N (t1_89 N self) L_89 zmr (TabOk.cons (z1gg hb) TabOk.nil) [0,0,1,0,1,1] _ rfl) (fun i v r K=>by kernel_rfl)
def z6a (N:Nat)(self:DT2->Option (Int×Int×Unit))(n:DT2):Option (Int×Int×Unit) :=
 ze4 N self n (1:Int) (0:Int) (0:Int)
 (fun all deep=>some (all,((IntKind.wrap IntKind.i64 (deep+(1:Int))),())))
def t_89 (N:Nat)(self:DT2->Option (Int×Int×Unit)):Tab (Int×Int×Unit):=[([0,1,0,1,1],z1lc N self)]
theorem z19p (N:Nat)(self:DT2->Option (Int×Int×Unit))(x:zw [(0,.v TT1)]):z4x (z1tm N self) N (t_89 N self) L_89 Tryd.f12 (mkS [(0,.v TT1)] 0 x) (z2u (.tup [(.int .i64),(.int .i64)]) 1)=z6a N self x.1:=by kernel_rfl
def z27:Nat->DT2->Option (Int×Int×Unit)
 | 0=>fun _=>none
 | N+1=>z6a (N+1) (z27 N)
def zck (N:Nat):List A->Res:=zy [(0,.v TT1)] (fun x=>z27 N x.1) (z6e (.tup [(.int .i64),(.int .i64)]) 1)
theorem ze5:∀ N:Nat,Contract Tryd.prog glob 12 (zck N)
 | 0=>Contract.zero Tryd.func12 (body:=zmr) (by kernel_rfl) (by decide) (fun _=>rfl)
 | N+1=>Contract.of (E:=z1tm (N+1) (z27 N)) (H:=t_89 (N+1) (z27 N)) (L:=L_89) (N:=(N+1)) (body:=zmr) (K:=(z2u (.tup [(.int .i64),(.int .i64)]) 1)) (z1rh (N+1) (z27 N) (ze5 N)) Tryd.func12 (by kernel_rfl) (by decide) (fun _ hb=>(TabOk.cons (z1h8 hb) TabOk.nil)) (fun x y h=>by rw[z19p];exact h) (zz (s:=(.tup [(.int .i64),(.int .i64)])) (m:=1))
def z1cd:Code:=(Tryd.f4.body).getD .skip
def L_90:List (List Nat×List Nat):=[([0],[1]),([0,1],[3,4]),([0,1,1],[2]),([1,1,1],[2])]
def E_90 (N:Nat):Env:=z1d tys glob [(12,zck N)] [] [] [] false [] []
theorem z1rg (N:Nat):EnvOk Tryd.prog (E_90 N):=zg mixed zn (FnsOk.cons (ze5 N) (FnsOk.nil)) (ItsOk.nil)
def z4p (N:Nat)(n:DT2):Option Bool :=
 (z27 N n).bind fun y =>
 cond (decide ((300:Int)<y.1))
 (some true)
 (some (decide ((40:Int)<y.2.1)))
def t_90 (N:Nat):Tab Bool:=[]
theorem z19o (N:Nat)(x:zw [(0,.v TT1)]):z4x (E_90 N) N (t_90 N) L_90 Tryd.f4 (mkS [(0,.v TT1)] 0 x) (z2u (.v .bool) 1)=z4p N x.1:=by kernel_rfl
def zbg (N:Nat):List A->Res:=zy [(0,.v TT1)] (fun x=>z4p N x.1) (z6e (.v .bool) 1)
theorem zjg (N:Nat):Contract Tryd.prog glob 4 (zbg N) :=
 Contract.of (E:=E_90 N) (H:=t_90 N) (L:=L_90) (N:=N) (body:=z1cd) (K:=(z2u (.v .bool) 1)) (z1rg N) Tryd.func4 (by kernel_rfl) (by decide) (fun _ hb=>TabOk.nil) (fun x y h=>by rw[z19o];exact h) (zz (s:=(.v .bool)) (m:=1))
def z1cc:Code:=(Tryd.f5.body).getD .skip
def L_93:List (List Nat×List Nat):=[([0],[]),([0,1],[1,2]),([0,1,1],[2,3,4]),([0,1,1,1],[5,2,3,4,6]),([0,1,1,1,1],[2,3,4,6,7,8]),([0,1,1,1,1,1],[0]),([1,1,1,1,1,1],[0])]
def E_93 (N:Nat):Env:=z1d tys glob [(6,zbn N),(10,z8g N),(13,zi0 N)] [] [] [] false [] []
theorem z1rf (N:Nat):EnvOk Tryd.prog (E_93 N):=zg mixed zn (FnsOk.cons (zhx N) (FnsOk.cons (zde N) (FnsOk.cons (zq8 N) (FnsOk.nil)))) (ItsOk.nil)
def z4o (N:Nat):Option Bool :=
 (zdx N ([(40:UInt8),(97:UInt8),(41:UInt8),(40:UInt8),(98:UInt8),(124:UInt8),(99:UInt8),(41:UInt8),(123:UInt8),(48:UInt8),(44:UInt8),(49:UInt8),(125:UInt8)]:List UInt8)).bind fun y =>
 (z6l N y.1).bind fun y1 =>
 (zdx N ([(91:UInt8),(97:UInt8),(45:UInt8),(98:UInt8),(93:UInt8)]:List UInt8)).bind fun y2 =>
 (z6l N y2.1).bind fun y3 =>
 cond (eqD (T.pair (T.int IntKind.i64) (T.pair (T.int IntKind.i64) T.unit)) y.2.1 ((0:Int),((0:Int),())))
 (cond (y1.1 == ([(97:UInt8),(40:UInt8),(98:UInt8),(124:UInt8),(99:UInt8),(41:UInt8),(63:UInt8)]:List UInt8))
 (cond y1.2.1
 (cond (eqD (T.pair (T.int IntKind.i64) (T.pair (T.int IntKind.i64) T.unit)) y2.2.1 ((0:Int),((0:Int),())))
 (cond (y3.1 == ([(91:UInt8),(97:UInt8),(98:UInt8),(93:UInt8)]:List UInt8))
 (cond y3.2.1
 (some ((zd7 ([(92:Int),(46:Int)]:List Int)) == ([(92:UInt8),(46:UInt8)]:List UInt8)))
 (some false))
 (some false))
 (some false))
 (some false))
 (some false))
 (some false)
def t_93 (N:Nat):Tab Bool:=[]
theorem z19n (N:Nat)(x:zw []):z4x (E_93 N) N (t_93 N) L_93 Tryd.f5 (mkS [] 0 x) (z2u (.v .bool) 0)=z4o N:=by kernel_rfl
def zbf (N:Nat):List A->Res:=zy [] (fun x=>z4o N) (z6e (.v .bool) 0)
theorem zjf (N:Nat):Contract Tryd.prog glob 5 (zbf N) :=
 Contract.of (E:=E_93 N) (H:=t_93 N) (L:=L_93) (N:=N) (body:=z1cc) (K:=(z2u (.v .bool) 0)) (z1rf N) Tryd.func5 (by kernel_rfl) (by decide) (fun _ hb=>TabOk.nil) (fun x y h=>by rw[z19n];exact h) (zz (s:=(.v .bool)) (m:=0))
def z1cb:Code:=(Tryd.f3.body).getD .skip
def L_94:List (List Nat×List Nat):=[([0],[3,4,2]),([0,0,1],[12,3,4,2]),([1,0,1],[3,4,2]),([0,0,1,0,1],[6]),([1,0,1,0,1],[6]),([0,1,1],[3,7,8,4,2]),([0,1,1,1],[7,9,8,10,4,2]),([0,1,1,1,1],[6]),([1,1,1,1,1],[6])]
def E_94 (N:Nat):Env:=z1d tys glob [(5,zbf N),(4,zbg N),(6,zbn N),(7,zcj N),(8,zdd N),(9,z8s N),(10,z8g N),(11,z7m N)] [] [] [] false [] []
theorem z1re (N:Nat):EnvOk Tryd.prog (E_94 N):=zg mixed zn (FnsOk.cons (zjf N) (FnsOk.cons (zjg N) (FnsOk.cons (zhx N) (FnsOk.cons (zk7 N) (FnsOk.cons (zjk N) (FnsOk.cons (zev N) (FnsOk.cons (zde N) (FnsOk.cons (ze3 N) (FnsOk.nil))))))))) (ItsOk.nil)
def z1p (N:Nat)(n:DT2)(s:(List Int))(b:Int):Option Bool :=
 (z4p N n).bind fun y =>
 cond y
 ((z4o N).bind fun y1 =>
 some y1)
 ((z6l N n).bind fun y2 =>
 (z5o N n).bind fun y3 =>
 cond (y2.1 == y3.1)
 (cond (y2.2.1 == y3.2.1)
 ((zau N s).bind fun y4 =>
 (z4m N s).bind fun y5 =>
 cond (y4 == y5)
 ((z8x N b).bind fun y6 =>
 (z43 N (IntKind.wrap IntKind.i64 b)).bind fun y7 =>
 cond (y6 == y7)
 ((z4o N).bind fun y8 =>
 some y8)
 (some false))
 (some false))
 (some false))
 (some false))
def t_94 (N:Nat):Tab Bool:=[]
theorem z19m (N:Nat)(x:zw SQ82):z4x (E_94 N) N (t_94 N) L_94 Tryd.f3 (mkS SQ82 0 x) (z2u (.v .bool) 3)=z1p N x.1 x.2.1 x.2.2.1:=by kernel_rfl
def zcv (N:Nat):List A->Res:=zy SQ82 (fun x=>z1p N x.1 x.2.1 x.2.2.1) (z6e (.v .bool) 3)
theorem zeb (N:Nat):Contract Tryd.prog glob 3 (zcv N) :=
 Contract.of (E:=E_94 N) (H:=t_94 N) (L:=L_94) (N:=N) (body:=z1cb) (K:=(z2u (.v .bool) 3)) (z1re N) Tryd.func3 (by kernel_rfl) (by decide) (fun _ hb=>TabOk.nil) (fun x y h=>by rw[z19m];exact h) (zz (s:=(.v .bool)) (m:=3))
end
end Go.Proofs.YtnnjnkjfkaaikaaDoorLg
set_option linter.all false
namespace Go.Proofs.YtnnjnkjfkaaikaaDoorPx
noncomputable section
open Go Go.Lift
theorem zbo {σ β:Type}{step:σ->(σ->Option β)->Option β}(I:σ->Prop)(m:σ->Nat)(R:σ->Option β)
 (h:∀ v r,I v->(∀ v',I v'->m v'<m v->r v'=R v')->step v r=R v):∀ (n:Nat) (v:σ),I v->m v<n->iter step n v=R v
 | 0,v,_,hm=>by omega
 | n+1,v,hv,hm=>h v (iter step n) hv fun v' hv' hlt=>zbo I m R h n v' hv' (by omega)
theorem wrap64 (x:Int):IntKind.wrap .i64 x=(x+9223372036854775808) % 18446744073709551616 - 9223372036854775808:=by
 simp only[IntKind.wrap,IntKind.bits,IntKind.signed,Bool.true_and,decide_eq_true_eq,Nat.add_one_sub_one,Int.reducePow,ge_iff_le];split<;>omega
def I64 (x:Int):Prop:=-9223372036854775808<=x/\x<=9223372036854775807
instance (x:Int):Decidable (I64 x):=by unfold I64;infer_instance
theorem z5x {x:Int}(h:I64 x):IntKind.wrap .i64 x=x:=by
 rw[wrap64];unfold I64 at h;omega
theorem z13 {α:Type}{b:Bool}(h:b=true)(x y:α):cond b x y=x:=by rw[h];rfl
theorem z2i {α:Type}{b:Bool}(h:b=false)(x y:α):cond b x y=y:=by rw[h];rfl
theorem zeg {n len:Nat}(h:n<len):inR (n:Int) len=true:=by simp only[inR,decide_eq_true_eq];omega
def zqg:T->Bool
 | .int _=>true
 | .bool=>true
 | .str=>true
 | .unit=>true
 | .pair a b=>zqg a && zqg b
 | .arr _ t=>zqg t
 | _=>false
theorem zkk:∀ (t:T) (x y:t.den),zqg t=true->(eqD t x y=true ↔ x=y)
 | .int _,x,y,_=>by simp[eqD]
 | .bool,x,y,_=>by simp[eqD]
 | .str,x,y,_=>by simp[eqD]
 | .unit,x,y,_=>by simp[eqD]
 | .pair a b,x,y,h=>by
   simp only[zqg,Bool.and_eq_true] at h;have h1:=zkk a x.1 y.1 h.1;have h2:=zkk b x.2 y.2 h.2;simp only[eqD];cases hq:eqD a x.1 y.1 with
   | false =>
     rw[hq] at h1;simp only[cond_false,Bool.false_eq_true,false_iff];intro e;exact absurd (h1.2 (by rw[e])) (by simp)
   | true =>
     rw[cond_true,h2];constructor
     . intro e;exact Prod.ext (h1.1 hq) e
     . intro e;rw[e]
 | .arr n t,xs,ys,h=>by
   have h:zqg t=true:=h;simp only[eqD]
   induction xs generalizing ys with
   | nil=>cases ys<;>simp[zz1]
   | cons x xs ih =>
     cases ys with
     | nil=>simp[zz1]
     | cons y ys =>
       have h1:=zkk t x y h;simp only[zz1];cases hq:eqD t x y with
       | false =>
         rw[hq] at h1;simp only[cond_false,Bool.false_eq_true,false_iff];intro e;exact absurd (h1.2 (List.cons.inj e).1) (by simp)
       | true =>
         rw[cond_true];have h2:zz1 (eqD t) xs ys=true ↔ xs=ys:=ih ys;constructor
         . intro e;rw[h1.1 hq,h2.1 e]
         . intro e;exact h2.2 (List.cons.inj e).2
 | .opq,x,y,h=>by simp[zqg] at h
 | .sl _,x,y,h=>by simp[zqg] at h
 | .ptr _,x,y,h=>by simp[zqg] at h
theorem z1c1 {t:T}(h:zqg t=true){x y:t.den}[d:Decidable (x=y)]:eqD t x y=decide (x=y):=by
 rw[Bool.eq_iff_iff,zkk t x y h,decide_eq_true_eq]
end
end Go.Proofs.YtnnjnkjfkaaikaaDoorPx
