import Derived.Test.YthgcpalmjcomlaaDoorLgPrRb4
import Derived.Test.YthgcpalmjcomlaaDoorLgPrRb5
import Derived.Test.YthgcpalmjcomlaaDoorLgPrRb6
import Derived.WalkKit
import Derived.Tactics
import Derived.Tactics2
import Derived.Defers
import Derived.Lib.Hide
import Derived.Below
import Derived.WalkSmall
import Derived.LoopN
import Derived.Deep.RegionHeld3
import Derived.Deep.Cut
import Derived.Deep.OwnRows
import Derived.Deep.LoopGhost
import Derived.Deep.Light
import Derived.Deep.CutRange
import Derived.KernelRfl
import Derived.Laws.Rows
import Derived.Test.YthgcpalmjcomlaaDoorLgPn
import Derived.Recover
import Derived.Orders
import Derived.Test.YthgcpalmjcomlaaDoorChecked
import Derived.Test.YthgcpalmjcomlaaDoorLgPrRb1
set_option linter.all false
set_option maxRecDepth 100000
namespace Go.Proofs.YthgcpalmjcomlaaDoorLg
noncomputable section
open Go Go.Lift Go.Proofs
theorem zfi (S:Hp):GlobOk zde S:=fun g d h=>by cases h
abbrev z10k:T:=.pair (.self 45) (.pair (.own (.byt 5)) .unit)
def zpe:Tree:=Tree.mk (0:Int) ([]:List Int) ([]:List Tree) (0:Int) (0:Int)
theorem zis {S:Hp}{n:NodT.den}{cs:List Value}(h:Rd S NodT n cs):∃ a cap s0 s1 s2 s3,cs=[.int .i64 n.1,.int .u64 s0,.int .u64 s1,.int .u64 s2,.int .u64 s3,.slice a n.2.2.1.length cap,.int .i64 n.2.2.2.1,.int .i64 n.2.2.2.2.1] ∧
 VR S (.sl .nod) n.2.2.1 (.slice a n.2.2.1.length cap):=by
 obtain⟨c1,c2,e,h1,c3,c4,e2,⟨hl,h3⟩,c5,c6,e3,⟨a,cap,h5,hc,hk⟩,c7,c8,e4,h7,c9,c10,e5,h9,h10⟩:=h;have h1:c1=[.int .i64 n.1]:=h1;have h7:c7=[.int .i64 n.2.2.2.1]:=h7;have h9:c9=[.int .i64 n.2.2.2.2.1]:=h9;have h10:c10=[]:=h10;have h5:c5=[.slice a n.2.2.1.length cap]:=h5;have h3:=(zhd _ _).1 h3;obtain⟨s0,s1,s2,s3,hs⟩:∃ s0 s1 s2 s3,n.2.1=[s0,s1,s2,s3]:=by
  have hl':n.2.1.length=4:=hl
  match h:n.2.1,hl' with
  | [a,b,c,d],_=>exact⟨a,b,c,d,rfl⟩
 refine⟨a,cap,s0,s1,s2,s3,?_,⟨a,cap,rfl,hc,hk⟩⟩;rw[e,h1,e2,h3,e3,h5,e4,h7,e5,h9,h10,hs];rfl
theorem zt2 {S:Hp}:∀ (ts:List Tree) (cs:List Value),All (RdN S) ts cs->∀ i,i<ts.length->∃ a cap s0 s1 s2 s3,
 Rd S NodT (unN (ts.getD i zpe)) [.int .i64 (unN (ts.getD i zpe)).1,.int .u64 s0,.int .u64 s1,.int .u64 s2,.int .u64 s3,.slice a (unN (ts.getD i zpe)).2.2.1.length cap,.int .i64 (unN (ts.getD i zpe)).2.2.2.1,.int .i64 (unN (ts.getD i zpe)).2.2.2.2.1] ∧
 cs[i*8]?=some (.int .i64 (unN (ts.getD i zpe)).1)/\cs[i*8+1]?=some (.int .u64 s0)/\cs[i*8+2]?=some (.int .u64 s1)/\cs[i*8+3]?=some (.int .u64 s2)/\cs[i*8+4]?=some (.int .u64 s3) ∧
 cs[i*8+5]?=some (.slice a (unN (ts.getD i zpe)).2.2.1.length cap)/\cs[i*8+6]?=some (.int .i64 (unN (ts.getD i zpe)).2.2.2.1)/\cs[i*8+7]?=some (.int .i64 (unN (ts.getD i zpe)).2.2.2.2.1)
 | [],_,_,i,hi=>by cases hi
 | t :: ts,cs,h,i,hi=>by
   obtain⟨c1,c2,rfl,h1,h2⟩:=h;have h1':=(zui t c1).1 h1;obtain⟨a,cap,s0,s1,s2,s3,rfl,hk⟩:=zis h1';cases i with
   | zero=>exact⟨a,cap,s0,s1,s2,s3,by simpa using h1',by simp,by simp,by simp,by simp,by simp,by simp,by simp,by simp⟩
   | succ i =>
     obtain⟨a',cap',r0,r1,r2,r3,g0,g1,g2,g3,g4,g5,g6,g7,g8⟩:=zt2 ts c2 h2 i (by simpa using hi);have sh:∀ k,([Value.int .i64 (unN t).1,.int .u64 s0,.int .u64 s1,.int .u64 s2,.int .u64 s3,.slice a (unN t).2.2.1.length cap,.int .i64 (unN t).2.2.2.1,.int .i64 (unN t).2.2.2.2.1]++c2)[(i+1)*8+k]?=c2[i*8+k]?:=fun k=>by
      rw[List.getElem?_append_right (by simp;omega)];congr 1;simp;omega
     refine⟨a',cap',r0,r1,r2,r3,by simpa using g0,?_,?_,?_,?_,?_,?_,?_,?_⟩
     . rw[show (i+1)*8=(i+1)*8+0 by omega,sh 0];simpa using g1
     all_goals (rw[sh];simpa using (by assumption))
theorem zzv {S:Hp} {ts:List Tree} {a:Option Addr} {cap:Nat} (h:VR S (.sl .nod) ts (.slice a ts.length cap)) (hn:0<ts.length):∃ b off,a=some ⟨b,off,none⟩/\∀ i,i<ts.length->∃ a cap s0 s1 s2 s3,
 VR S NodT (unN (ts.getD i zpe)) (.agg #[.int .i64 (unN (ts.getD i zpe)).1,.int .u64 s0,.int .u64 s1,.int .u64 s2,.int .u64 s3,.slice a (unN (ts.getD i zpe)).2.2.1.length cap,.int .i64 (unN (ts.getD i zpe)).2.2.2.1,.int .i64 (unN (ts.getD i zpe)).2.2.2.2.1]) ∧
 ∀ w:World,Lift.Sub S (hp w)->w.cell? ⟨b,off+i*8,none⟩=some (.int .i64 (unN (ts.getD i zpe)).1)/\w.cell? ⟨b,off+i*8+1,none⟩=some (.int .u64 s0)/\w.cell? ⟨b,off+i*8+2,none⟩=some (.int .u64 s1)/\w.cell? ⟨b,off+i*8+3,none⟩=some (.int .u64 s2)/\w.cell? ⟨b,off+i*8+4,none⟩=some (.int .u64 s3) ∧
   w.cell? ⟨b,off+i*8+5,none⟩=some (.slice a (unN (ts.getD i zpe)).2.2.1.length cap)/\w.cell? ⟨b,off+i*8+6,none⟩=some (.int .i64 (unN (ts.getD i zpe)).2.2.2.1)/\w.cell? ⟨b,off+i*8+7,none⟩=some (.int .i64 (unN (ts.getD i zpe)).2.2.2.2.1):=by
 have h':Rd S (.sl .nod) ts [.slice a ts.length cap]:=h;obtain⟨a',cap',e,hcap,h1⟩:=h';cases e;rcases h1 with rfl|⟨b,off,c1,rfl,hl,ha⟩
 . cases hn
 . refine⟨b,off,rfl,fun i hi=>?_⟩;obtain⟨a',cap',s0,s1,s2,s3,g0,g1,g2,g3,g4,g5,g6,g7,g8⟩:=zt2 ts c1 ha i hi;refine⟨a',cap',s0,s1,s2,s3,⟨_,rfl,by simpa using g0⟩,fun w hw=>?_⟩;have at':∀ j u,c1[j]?=some u->w.cell? ⟨b,off+j,none⟩=some u:=fun j u hu=>by
    obtain⟨all,E,fr,c0,c2,q1,q2,q3⟩:=hl;have q4:=hw _ _ q1;have hb:w.heap[b]?=some (.cells all E fr):=q4;have:all[off+j]?=some u:=by
     rw[<- Array.getElem?_toList,q2,List.getElem?_append_right (by omega),q3,show off+j - off=j by omega,List.getElem?_append_left (List.getElem?_eq_some_iff.1 hu).1];exact hu
    simp[World.cell?,hb,this]
   simp only[Nat.add_assoc];exact⟨at' _ _ g1,at' _ _ g2,at' _ _ g3,at' _ _ g4,at' _ _ g5,at' _ _ g6,at' _ _ g7,at' _ _ g8⟩
section
variable {w0 w:World} {S0:Hp} {ob0:List Nat} {bf:Nat} {t:T} {x:t.den} {L:List (Nat×Array Value×Nat)}
theorem BSt.data14 {glob:Nat->Option Dat}{P:Program}{f:FuncId}{g:List A->Res}(ct:Contract P glob f g)(hg:GlobOk glob S0)(h:BSt t w0 S0 ob0 bf w x L){args:List A}{vals:List Value}
 (hrel:∀ S,Lift.Sub S0 S->Lift.Sub S (hp w)->ArgsRel (hp w) S args vals (fun _=>[])) {y:(g args).X} (hy:(g args).val=some y) :
 Calls P f vals.toArray w fun e w'=>∃ v S' o',e=.returned v/\ARel (hp w') S' (fun _=>undef) ((g args).out y).1 v o'/\BSt t w0 S0 ob0 bf w' x L:=by
 have h':=h;obtain⟨S,o,h1,h2,h3,h4,h5,h6,h7,hL⟩:=h';refine ((ct.2 w S args vals _ (hrel S h2 h3) h3 (hg.mono h2) y hy)).mono ?_;rintro e w' ⟨v,S',q,ob',rfl,hwf,hSS,hSw,hnew,⟨hr,_⟩,_⟩;refine⟨v,S',q,rfl,hr,?_⟩;have hwf':WF w (fun _=>False) w':=⟨hwf.size,fun k hk _=>hwf.same k hk (by rintro⟨i,hi⟩;cases hi),hwf.tape,hwf.os,hwf.output⟩
 have hlt:∀ k∈o,k<w.heap.size:=fun k hk=>by
  obtain⟨ob,hob⟩:=h5.obj k hk;exact (Array.getElem?_eq_some_iff.1 hob.1).1
 have hnw:∀ k,k<w.heap.size->S' k≠none->S k≠none:=fun k hk hs=>by
  rcases hnew k hs with h|⟨i,hi⟩|h
  . exact h
  . cases hi
  . omega
 refine⟨S',o,h1.trans hwf' (fun _ h=>h.elim),h2.trans hSS,hSw,fun k hk=>?_,?_,h6,fun k hk=>⟨?_,(h7 k hk).2⟩,fun p hp=>?_⟩
 . rcases hnew k hk with h|⟨i,hi⟩|h
   . exact h4 k h
   . cases hi
   . exact .inr (.inr (Nat.le_trans h1.size h))
 . obtain⟨b,cs,E,fr,bs,rfl,e1,e2,e3,e4⟩:=h5;refine⟨b,cs,E,fr,bs,rfl,e1,?_,e3,e4.mono hSS _ _ _ _ (fun k hk=>hwf'.same k (hlt k (by simp[hk])) (fun h=>h))⟩;have:=hwf'.same b (hlt b (by simp)) (fun h=>h);simp only[hp] at e2 ⊢;rw[this];exact e2
 . cases hs:S' k with
   | none=>rfl
   | some q=>exact absurd (h7 k hk).1 (hnw k (hlt k hk) (by rw[hs];simp))
 . obtain⟨p1,p2,p3,p4⟩:=hL p hp;have hl:=(Array.getElem?_eq_some_iff.1 p4).1;refine⟨?_,p2,p3,?_⟩
   . cases hs:S' p.1 with
     | none=>rfl
     | some q=>exact absurd p1 (hnw _ hl (by rw[hs];simp))
   . rw[hwf'.same p.1 hl (fun h=>h)];exact p4
end
theorem zhv {w:World}{S:Hp}{a:A}{v:Value}(h:ARel (hp w) S (fun _=>undef) a v [])(hr:a.refs=[]):ArgsRel (hp w) S [a] [v] (fun _=>[]):=by
 refine⟨rfl,fun i y hy=>?_,fun _ _=>rfl,(fun i j b hb=>by cases hb),fun _=>.nil,(fun i b hb=>by cases hb)⟩;cases i with
 | zero=>simp at hy;subst hy;exact⟨⟨v,rfl,h⟩,hr⟩
 | succ i=>simp at hy
theorem z10e {w:World}{S:Hp}{a b:A}{u v:Value}(h:ARel (hp w) S (fun _=>undef) a u [])(hr:a.refs=[])(h2:ARel (hp w) S (fun _=>undef) b v [])(hr2:b.refs=[]):ArgsRel (hp w) S [a,b] [u,v] (fun _=>[]):=by
 refine⟨rfl,fun i y hy=>?_,fun _ _=>rfl,(fun i j b hb=>by cases hb),fun _=>.nil,(fun i b hb=>by cases hb)⟩
 match i with
 | 0=>simp at hy;subst hy;exact⟨⟨u,rfl,h⟩,hr⟩
 | 1=>simp at hy;subst hy;exact⟨⟨v,rfl,h2⟩,hr2⟩
 | i+2=>simp at hy
theorem zoq {w:World}{S:Hp}:ArgsRel (hp w) S [] [] (fun _=>[]):=⟨rfl,(fun i y hy=>by simp at hy),fun _ _=>rfl,(fun i j b hb=>by cases hb),fun _=>.nil,(fun i b hb=>by cases hb)⟩
section
variable {w0 w:World} {S0:Hp} {ob0:List Nat} {bf:Nat} {L:List (Nat×Array Value×Nat)} {xs:List UInt8}
theorem z10y (N:Nat)(h:BSt z10k w0 S0 ob0 bf w ((),(z3m xs,())) L)(b:UInt8){c:Int}(hc:c=(b.toNat:Int))(hl:xs.length+1<=70368744177664) :
 Calls Go.Proofs.Tryd.prog 14 #[.pointer (some ⟨bf,0,none⟩),.int .u8 c] w fun q w'=>(∃ v,q=.returned v)/\BSt z10k w0 S0 ob0 bf w' ((),(z3m (xs++[b]),())) L:=by
 subst hc;have hy:z3n N ((),(z3m xs,())) ((b.toNat:Nat):Int)=some (Go.Value.nilIface,(((),(z3m (xs++[b]),())),())):=by
  rw[z3n];rw[show decide _=true from decide_eq_true (by simp[z3m];omega)];simp[z3m]
 refine (BSt.boxed (zbp N) zfi h (args:=[.v (.int .u8) ((b.toNat:Nat):Int)]) (vals:=[.int .u8 ((b.toNat:Nat):Int)]) (fun S hS=>zhv ⟨VR.int,rfl⟩ rfl) hy rfl).mono ?_;rintro e w' ⟨v,S',o',rfl,_,hb⟩;exact⟨⟨v,rfl⟩,hb⟩
theorem z10r (N:Nat)(h:BSt z10k w0 S0 ob0 bf w ((),(z3m xs,())) L)(s:List UInt8)(hl:xs.length+s.length<=70368744177664) :
 Calls Go.Proofs.Tryd.prog 17 #[.pointer (some ⟨bf,0,none⟩),.string ⟨⟨s⟩⟩] w fun q w'=>(∃ v,q=.returned v)/\BSt z10k w0 S0 ob0 bf w' ((),(z3m (xs++s),())) L:=by
 have hy:z1b N ((),(z3m xs,())) s=some (((((s.length:Nat):Int)),(Go.Value.nilIface,())),(((),(z3m (xs++s),())),())):=by
  unfold z1b;rw[show decide _=true from decide_eq_true (by simp[z3m];omega)];simp[z3m]
 refine (BSt.boxed (z5l N) zfi h (args:=[.v .str s]) (vals:=[.string ⟨⟨s⟩⟩]) (fun S hS=>zhv ⟨VR.str,rfl⟩ rfl) hy rfl).mono ?_;rintro e w' ⟨v,S',o',rfl,_,hb⟩;exact⟨⟨v,rfl⟩,hb⟩
theorem z12s (N:Nat)(h:BSt z10k w0 S0 ob0 bf w ((),(z3m xs,())) L) :
 Calls Go.Proofs.Tryd.prog 15 #[.pointer (some ⟨bf,0,none⟩)] w fun q w'=>q=.returned (.int .i64 (xs.length:Int))/\BSt z10k w0 S0 ob0 bf w' ((),(z3m xs,())) L:=by
 have hy:z5v N ((),(z3m xs,()))=some ((xs.length:Int),(((),(z3m xs,())),())):=by
  rw[z5v];simp[z3m]
 refine (BSt.boxed (zg5 N) zfi h (args:=[]) (vals:=[]) (fun S hS=>zoq) hy rfl).mono ?_;rintro e w' ⟨v,S',o',rfl,hr,hb⟩;exact⟨by rw[VR.int_inv hr.1],hb⟩
theorem z106 (N:Nat)(hg:GlobOk glob S0)(h:BSt z10k w0 S0 ob0 bf w ((),(z3m xs,())) L){n k:NodT.den}{u v:Value}(hu:VR S0 NodT n u)(hv:VR S0 NodT k v){r:Bool}(hy:z28 N n k=some r) :
 Calls Go.Proofs.Tryd.prog 16 #[u,v] w fun q w'=>q=.returned (.bool r)/\BSt z10k w0 S0 ob0 bf w' ((),(z3m xs,())) L:=by
 refine (BSt.data14 (zin N) hg h (args:=[.v NodT n,.v NodT k]) (vals:=[u,v]) (fun S h1 hS=>z10e ⟨hu.mono h1,rfl⟩ rfl ⟨hv.mono h1,rfl⟩ rfl) hy).mono ?_;rintro e w' ⟨v,S',o',rfl,hr,hb⟩;exact⟨by rw[VR.bool_inv hr.1],hb⟩
theorem z104 (N:Nat)(hg:GlobOk glob S0)(h:BSt z10k w0 S0 ob0 bf w ((),(z3m xs,())) L){n:NodT.den}{u:Value}(hu:VR S0 NodT n u){r:List UInt8}(hy:z76 N n=some r) :
 Calls Go.Proofs.Tryd.prog 18 #[u] w fun q w'=>q=.returned (.string ⟨⟨r⟩⟩)/\BSt z10k w0 S0 ob0 bf w' ((),(z3m xs,())) L:=by
 refine (BSt.data14 (zoy N) hg h (args:=[.v NodT n]) (vals:=[u]) (fun S h1 hS=>zhv ⟨hu.mono h1,rfl⟩ rfl) hy).mono ?_;rintro e w' ⟨v,S',o',rfl,hr,hb⟩;exact⟨by rw[VR.str_inv hr.1],hb⟩
end
abbrev zj9:=List UInt8×(Int×Bool)
def zc8 (o:List UInt8)(m:Nat):Bool:=decide (o.length+m<=70368744177664)
def z10d (n:NodT.den)(i:Nat)(st:zj9):Option zj9:=if n.1=3/\0<i then (if zc8 st.1 1=true then some (st.1++[124],st.2) else none) else some st
def z9v (N:Nat) (self:NodT.den->Bool->zj9->Option zj9) (n:NodT.den):Nat->List Tree->zj9->Option (zj9×Bool)
 | _,[],st=>some (st,true)
 | i,x::xs,st=>if st.2.2=false then some (st,false) else
   (z10d n i st).bind fun s1=>(z28 N n (unN x)).bind fun e=>(self (unN x) e s1).bind fun s2=>z9v N self n (i+1) xs s2
def z1hu (enc:Bool)(st:zj9):Option zj9:=if enc=true then (if zc8 st.1 1=true then some (st.1++[40],(Go.RowKit.wrap64 (st.2.1+1),st.2.2)) else none) else some st
def zo7 (st:zj9):zj9:=(st.1,(st.2.1,st.2.2 && (decide (st.1.length<=256) && decide (st.2.1<=16))))
def z15p (N:Nat)(n:NodT.den)(enc:Bool)(st:zj9):Option zj9 :=
 (z76 N n).bind fun e=>if zc8 st.1 (e.length+1)=true then some (if enc=true then (st.1++e++[41],(Go.RowKit.wrap64 (st.2.1 - 1),st.2.2)) else (st.1++e,st.2)) else none
def zov (N:Nat):Nat->NodT.den->Bool->zj9->Option zj9
 | 0=>fun _ _ _=>none
 | h + 1=>fun n enc st=>if decide (n.2.2.1.length<=9223372036854775807)=true then
     (z1hu enc st).bind fun s1=>(z9v N (zov N h) n 0 n.2.2.1 (zo7 s1)).bind fun q=>if q.2=false then some q.1 else z15p N n enc q.1
   else none
def z14u (B O F W:Nat):Value:=.func (.func 13) #[] #[.pointer (some ⟨B,0,none⟩),.pointer (some ⟨O,0,none⟩),.pointer (some ⟨F,0,none⟩),.pointer (some ⟨W,0,none⟩)]
def RSt (w0:World)(S0:Hp)(B O F W:Nat)(st:zj9)(X:List (Nat×Array Value×Nat))(w:World):Prop :=
 BSt z10k w0 S0 [] B w ((),(z3m st.1,())) ((O,#[.int .i64 st.2.1],3)::(F,#[.bool st.2.2],4)::(W,#[z14u B O F W],46)::X)/\O≠F/\O≠W/\F≠W/\(∀ p∈X,p.1≠O/\p.1≠F/\p.1≠W)
section
variable {w0 w:World} {S0:Hp} {B O F W:Nat} {st:zj9} {X:List (Nat×Array Value×Nat)}
theorem RSt.getO (h:RSt w0 S0 B O F W st X w):w.cell? ⟨O,0,none⟩=some (.int .i64 st.2.1)/\w.frozen? ⟨O,0,none⟩=false:=⟨h.1.cell (.head _) rfl,h.1.free (.head _)⟩
theorem RSt.getF (h:RSt w0 S0 B O F W st X w):w.cell? ⟨F,0,none⟩=some (.bool st.2.2)/\w.frozen? ⟨F,0,none⟩=false:=⟨h.1.cell (.tail _ (.head _)) rfl,h.1.free (.tail _ (.head _))⟩
theorem RSt.getW (h:RSt w0 S0 B O F W st X w):w.cell? ⟨W,0,none⟩=some (z14u B O F W):=h.1.cell (.tail _ (.tail _ (.head _))) rfl
theorem RSt.setO (h:RSt w0 S0 B O F W st X w)(k:Int):RSt w0 S0 B O F W (st.1,(k,st.2.2)) X (w.setCell ⟨O,0,none⟩ (.int .i64 k)):=by
 refine⟨h.1.setCell ?_ 0 _,h.2⟩;intro q hq;rcases List.mem_cons.1 hq with rfl|hq
 . exact fun e=>h.2.1 e.symm
 . rcases List.mem_cons.1 hq with rfl|hq
   . exact fun e=>h.2.2.1 e.symm
   . exact (h.2.2.2.2 q hq).1
theorem RSt.setF (h:RSt w0 S0 B O F W st X w)(f:Bool):RSt w0 S0 B O F W (st.1,(st.2.1,f)) X (w.setCell ⟨F,0,none⟩ (.bool f)):=by
 have h1:BSt z10k w0 S0 [] B w ((),(z3m st.1,())) ((F,#[.bool st.2.2],4)::(O,#[.int .i64 st.2.1],3)::(W,#[z14u B O F W],46)::X):=h.1.swap (fun p hp=>by
  simp only[List.mem_cons] at hp ⊢;rcases hp with h|h|h|h
  . exact .inr (.inl h)
  . exact .inl h
  . exact .inr (.inr (.inl h))
  . exact .inr (.inr (.inr h)))
 refine⟨(h1.setCell ?_ 0 (.bool f)).swap (fun p hp=>by
  simp only[List.mem_cons] at hp ⊢;rcases hp with h|h|h|h
  . exact .inr (.inl h)
  . exact .inl h
  . exact .inr (.inr (.inl h))
  . exact .inr (.inr (.inr h))),h.2⟩
 intro q hq;rcases List.mem_cons.1 hq with rfl|hq
 . exact fun e=>h.2.1 e
 . rcases List.mem_cons.1 hq with rfl|hq
   . exact fun e=>h.2.2.2.1 e.symm
   . exact (h.2.2.2.2 q hq).2.1
theorem RSt.drop (h:RSt w0 S0 B O F W st X w){Y:List (Nat×Array Value×Nat)}(hY:∀ p∈Y,p∈X):RSt w0 S0 B O F W st Y w:=by
 refine⟨h.1.swap (fun p hp=>?_),h.2.1,h.2.2.1,h.2.2.2.1,fun p hp=>h.2.2.2.2 p (hY p hp)⟩;simp only[List.mem_cons] at hp ⊢;rcases hp with h|h|h|h
 . exact .inl h
 . exact .inr (.inl h)
 . exact .inr (.inr (.inl h))
 . exact .inr (.inr (.inr (hY p h)))
theorem RSt.alloc (h:RSt w0 S0 B O F W st X w)(cs:Array Value)(E:Nat):RSt w0 S0 B O F W st ((w.heap.size,cs,E)::X) (w.alloc (.cells cs E)):=by
 have hl:=h.1.lt;have lO:=hl _ (.head _);have lF:=hl _ (.tail _ (.head _));have lW:=hl _ (.tail _ (.tail _ (.head _)));simp only at lO lF lW;refine⟨(h.1.alloc cs E).swap (fun p hp=>?_),h.2.1,h.2.2.1,h.2.2.2.1,fun p hp=>?_⟩
 . simp only[List.mem_cons] at hp ⊢;rcases hp with h|h|h|h|h
   . exact .inr (.inl h)
   . exact .inr (.inr (.inl h))
   . exact .inr (.inr (.inr (.inl h)))
   . exact .inl h
   . exact .inr (.inr (.inr (.inr h)))
 . rcases List.mem_cons.1 hp with rfl|hp
   . exact⟨by simp only;omega,by simp only;omega,by simp only;omega⟩
   . exact h.2.2.2.2 p hp
theorem RSt.drew (h:RSt w0 S0 B O F W st X w):RSt w0 S0 B O F W st X w.drew:=⟨h.1.drew,h.2⟩
theorem RSt.own (h:RSt w0 S0 B O F W st X w){p:Nat}{cs:Array Value}{E i:Nat}{v:Value}(hm:(p,cs,E)∈X)(hi:cs[i]?=some v):w.cell? ⟨p,i,none⟩=some v:=h.1.cell (.tail _ (.tail _ (.tail _ hm))) hi
theorem RSt.sub (h:RSt w0 S0 B O F W st X w):Lift.Sub S0 (hp w):=by
 obtain⟨⟨S,o,h1,h2,h3,_⟩,_⟩:=h;exact fun k q hk=>h3 k q (h2 k q hk)
theorem RSt.byte (N:Nat)(h:RSt w0 S0 B O F W st X w)(b:UInt8){c:Int}(hc:c=(b.toNat:Int))(hl:zc8 st.1 1=true) :
 Calls Go.Proofs.Tryd.prog 14 #[.pointer (some ⟨B,0,none⟩),.int .u8 c] w fun q w'=>(∃ v,q=.returned v)/\RSt w0 S0 B O F W (st.1++[b],st.2) X w' :=
 (z10y N h.1 b hc (of_decide_eq_true hl)).mono fun q w' ⟨h1,h2⟩=>⟨h1,h2,h.2⟩
theorem RSt.text (N:Nat)(h:RSt w0 S0 B O F W st X w)(s:List UInt8)(hl:zc8 st.1 (s.length+1)=true) :
 Calls Go.Proofs.Tryd.prog 17 #[.pointer (some ⟨B,0,none⟩),.string ⟨⟨s⟩⟩] w fun q w'=>(∃ v,q=.returned v)/\RSt w0 S0 B O F W (st.1++s,st.2) X w' :=
 (z10r N h.1 s (by have:=of_decide_eq_true hl;omega)).mono fun q w' ⟨h1,h2⟩=>⟨h1,h2,h.2⟩
theorem RSt.len (N:Nat)(h:RSt w0 S0 B O F W st X w) :
 Calls Go.Proofs.Tryd.prog 15 #[.pointer (some ⟨B,0,none⟩)] w fun q w'=>q=.returned (.int .i64 (st.1.length:Int))/\RSt w0 S0 B O F W st X w' :=
 (z12s N h.1).mono fun q w' ⟨h1,h2⟩=>⟨h1,h2,h.2⟩
theorem RSt.enc (N:Nat)(hg:GlobOk glob S0)(h:RSt w0 S0 B O F W st X w){n k:NodT.den}{u v:Value}(hu:VR S0 NodT n u)(hv:VR S0 NodT k v){r:Bool}(hy:z28 N n k=some r) :
 Calls Go.Proofs.Tryd.prog 16 #[u,v] w fun q w'=>q=.returned (.bool r)/\RSt w0 S0 B O F W st X w' :=
 (z106 N hg h.1 hu hv hy).mono fun q w' ⟨h1,h2⟩=>⟨h1,h2,h.2⟩
theorem RSt.end (N:Nat)(hg:GlobOk glob S0)(h:RSt w0 S0 B O F W st X w){n:NodT.den}{u:Value}(hu:VR S0 NodT n u){r:List UInt8}(hy:z76 N n=some r) :
 Calls Go.Proofs.Tryd.prog 18 #[u] w fun q w'=>q=.returned (.string ⟨⟨r⟩⟩)/\RSt w0 S0 B O F W st X w' :=
 (z104 N hg h.1 hu hy).mono fun q w' ⟨h1,h2⟩=>⟨h1,h2,h.2⟩
end
theorem ztg (N:Nat){self:NodT.den->Bool->zj9->Option zj9}{n:NodT.den}{i:Nat}{x:Tree}{xs:List Tree}{st:zj9}{q:zj9×Bool}(h:z9v N self n i (x::xs) st=some q) :
 (st.2.2=false/\q=(st,false))\/(st.2.2=true/\∃ s1 e s2,z10d n i st=some s1/\z28 N n (unN x)=some e/\self (unN x) e s1=some s2/\z9v N self n (i+1) xs s2=some q):=by
 rw[z9v] at h;cases hf:st.2.2 with
 | false=>rw[if_pos hf] at h;exact .inl ⟨rfl,(Option.some.inj h).symm⟩
 | true =>
   rw[if_neg (by rw[hf];decide)] at h;obtain⟨s1,h1,h⟩:=Option.bind_eq_some_iff.1 h;obtain⟨e,h2,h⟩:=Option.bind_eq_some_iff.1 h;obtain⟨s2,h3,h⟩:=Option.bind_eq_some_iff.1 h;exact .inr ⟨rfl,s1,e,s2,h1,h2,h3,h⟩
theorem z1n5 {xs:List Tree}{j:Nat}(h:j<xs.length):xs.drop j=xs.getD j zpe::xs.drop (j+1):=by
 rw[List.drop_eq_getElem_cons h,List.getD_eq_getElem?_getD,List.getElem?_eq_getElem h];rfl
theorem z1e5 {j:Nat}(h:j<9223372036854775807):IntKind.i64.wrap ((j:Int)+1)=(j:Int)+1:=by
 have h1:((j:Int)+1+9223372036854775808) % 18446744073709551616=(j:Int)+1+9223372036854775808:=Int.emod_eq_of_lt (by omega) (by omega);simp only[IntKind.wrap,IntKind.bits,IntKind.signed]
 first|omega|(simp;omega)
theorem RSt.eight {w0 w:World}{S0:Hp}{B O F W:Nat}{st:zj9}{X:List (Nat×Array Value×Nat)}(h:RSt w0 S0 B O F W st X w){p E:Nat}{v0 v1 v2 v3 v4 v5 v6 v7:Value}(hm:(p,#[v0,v1,v2,v3,v4,v5,v6,v7],E)∈X) :
 w.cell? ⟨p,0,none⟩=some v0/\w.cell? ⟨p,1,none⟩=some v1/\w.cell? ⟨p,2,none⟩=some v2/\w.cell? ⟨p,3,none⟩=some v3/\w.cell? ⟨p,4,none⟩=some v4/\w.cell? ⟨p,5,none⟩=some v5/\w.cell? ⟨p,6,none⟩=some v6/\w.cell? ⟨p,7,none⟩=some v7 :=
 ⟨h.own hm rfl,h.own hm rfl,h.own hm rfl,h.own hm rfl,h.own hm rfl,h.own hm rfl,h.own hm rfl,h.own hm rfl⟩
set_option maxHeartbeats 30000000 in
theorem zli (N:Nat) {w0:World} {S0:Hp} {B O F W:Nat} (hg:GlobOk glob S0):∀ (hf:Nat) (n:NodT.den) (enc:Bool) (w:World) (nv:Value) (st st':zj9) (X:List (Nat×Array Value×Nat)),VR S0 NodT n nv->RSt w0 S0 B O F W st X w->zov N hf n enc st=some st' →
 Calls Go.Proofs.Tryd.prog 13 #[nv,.bool enc,.pointer (some ⟨B,0,none⟩),.pointer (some ⟨O,0,none⟩),.pointer (some ⟨F,0,none⟩),.pointer (some ⟨W,0,none⟩)] w fun q w'=>q=.returned (.tuple #[])/\RSt w0 S0 B O F W st' X w'
 | 0,n,enc,w,nv,st,st',X,hn,hst,hy=>by cases hy
 | hf+1, n,enc,w,nv,st,st',X,hn,hst,hy=>by
   have ih:=zli N (w0:=w0) (S0:=S0) (B:=B) (O:=O) (F:=F) (W:=W) hg hf;rw[zov] at hy;dsimp only at hy;by_cases hlen:n.2.2.1.length<=9223372036854775807
   case neg=>rw[if_neg (by simpa using hlen)] at hy;cases hy
   rw[if_pos (by simpa using hlen)] at hy;obtain⟨s1,hy1,hy⟩:=Option.bind_eq_some_iff.1 hy;obtain⟨q,hy2,hy⟩:=Option.bind_eq_some_iff.1 hy;have hn':∃ cs,nv=.agg cs/\Rd S0 NodT n cs.toList:=hn;obtain⟨cs,hnv,hrd⟩:=hn';obtain⟨a,cap,c0,c1,c2,c3,hcs,hkids⟩:=zis hrd;have hcs':cs=#[.int .i64 n.1,.int .u64 c0,.int .u64 c1,.int .u64 c2,.int .u64 c3,.slice a n.2.2.1.length cap,.int .i64 n.2.2.2.1,.int .i64 n.2.2.2.2.1]:=by
    apply Array.toList_inj.1;rw[hcs]
   subst hcs';subst hnv
   suffices HX:∀ R:Ending->World->Prop,Go.RowKit.Hid (∀ w',RSt w0 S0 B O F W st' X w'->R (.returned (.tuple #[])) w')->Calls Go.Proofs.Tryd.prog 13 #[.agg #[.int .i64 n.1,.int .u64 c0,.int .u64 c1,.int .u64 c2,.int .u64 c3,.slice a n.2.2.1.length cap,.int .i64 n.2.2.2.1,.int .i64 n.2.2.2.2.1],.bool enc,.pointer (some ⟨B,0,none⟩),.pointer (some ⟨O,0,none⟩),.pointer (some ⟨F,0,none⟩),.pointer (some ⟨W,0,none⟩)] w R from HX _ (Go.Lib.hid (fun w' a=>⟨rfl,a⟩))
   intro R HR;have hal:=hst.alloc #[.int .i64 n.1,.int .u64 c0,.int .u64 c1,.int .u64 c2,.int .u64 c3,.slice a n.2.2.1.length cap,.int .i64 n.2.2.2.1,.int .i64 n.2.2.2.2.1] 27;have HA:=Go.Lib.hid hal;have HY1:=Go.Lib.hid hy1;have HY2:=Go.Lib.hid hy2;have HY:=Go.Lib.hid hy;have HK:=Go.Lib.hid hkids;have HN:=Go.Lib.hid hn;have IH:=Go.Lib.hid ih;have HG:=Go.Lib.hid hg;clear hy hy1 hy2 hal hst hkids hrd hcs hn ih hg;generalize hkl:n.2.2.1.length=kl at *;have HKL:=Go.Lib.hid hkl;clear hkl
   go_enter Go.Proofs.Tryd.func13,Go.Proofs.Tryd.ntmps13
   go_upto_if 10 with (fail)
   go_cut [] from 10 to 13 (fun wc=>RSt w0 S0 B O F W s1 ((w.heap.size,#[.int .i64 n.1,.int .u64 c0,.int .u64 c1,.int .u64 c2,.int .u64 c3,.slice a kl cap,.int .i64 n.2.2.2.1,.int .i64 n.2.2.2.2.1],27)::X) wc)
   case first =>
    have h1:=HY1.out;cases enc with
    | false =>
      rw[z1hu,if_neg (by decide)] at h1;obtain rfl:=Option.some.inj h1;clear h1
      go_wp2
      go_meet
      exact HA.out
    | true =>
      rw[z1hu,if_pos rfl] at h1;by_cases hroom:zc8 st.1 1=true
      case neg=>rw[if_neg hroom] at h1;cases h1
      rw[if_pos hroom] at h1;obtain rfl:=Option.some.inj h1;have HB:=Go.Lib.hid (HA.out.byte N 40 (c:=40) rfl hroom);clear h1 hroom
      go_wp2_with (go_at_call 14;refine HB.out.mono ?_;rintro q1 w1 ⟨⟨v1,rfl⟩,hw1⟩;have hO1:w1.cell? ⟨O,0,none⟩=some (.int .i64 st.2.1):=hw1.getO.1;have hO2:=hw1.getO.2;have HW1:=Go.Lib.hid hw1;clear HB hw1)
      go_meet
      exact HW1.out.setO _
   case rest =>
   have HC:=Go.Lib.hid hcut;clear hcut HA HY1 hy
   go_upto_region 4 with (fail)
   go_cut [] from 14 to 22 (fun wd=>RSt w0 S0 B O F W (zo7 s1) ((w.heap.size,#[.int .i64 n.1,.int .u64 c0,.int .u64 c1,.int .u64 c2,.int .u64 c3,.slice a kl cap,.int .i64 n.2.2.2.1,.int .i64 n.2.2.2.2.1],27)::X) wd)
   case first =>
    cases hb:s1.2.2 with
    | false =>
      have hF1:wc.cell? ⟨F,0,none⟩=some (.bool false):=by rw[<- hb];exact HC.out.getF.1
      have hF2:=HC.out.getF.2;have HFI:=Go.Lib.hid (show zo7 s1=(s1.1,(s1.2.1,false)) by simp[zo7,hb]);clear hb
      go_wp2
      all_goals (
       go_meet
       rw[HFI.out];exact HC.out.setF _)
    | true =>
      have hF1:wc.cell? ⟨F,0,none⟩=some (.bool true):=by rw[<- hb];exact HC.out.getF.1
      have HFI:=Go.Lib.hid (show zo7 s1=(s1.1,(s1.2.1,decide (s1.1.length<=256) && decide (s1.2.1<=16))) by simp[zo7,hb]);have HLN:=Go.Lib.hid (HC.out.len N);clear hb;by_cases hl2:(s1.1.length:Int)<=256
      all_goals go_wp2_with (go_at_call 15;refine HLN.out.mono ?_;rintro q1 w1 ⟨rfl,hw1⟩;have hO1:=hw1.getO.1;have hF3:=hw1.getF.1;have hF2:=hw1.getF.2;have HW1:=Go.Lib.hid hw1;clear HLN hw1)
      all_goals go_meet
      all_goals first
       | (rw[HFI.out,decide_eq_true (show s1.1.length<=256 by omega),Bool.true_and];exact HW1.out.setF _)
       | (rw[HFI.out,decide_eq_false (show ¬ s1.1.length<=256 by omega),Bool.false_and];exact HW1.out.setF _)
   case rest =>
   have HD:=Go.Lib.hid hcut;have hP5:=(hcut.own (.head _) (i:=5) rfl:wc.cell? ⟨w.heap.size,5,none⟩=some (Value.slice a kl cap))
   have hkk:VR S0 (.sl .nod) n.2.2.1 (.slice a n.2.2.1.length cap):=by rw[HKL.out];exact HK.out
   have HKK:=Go.Lib.hid hkk;clear hcut HC hkk
   go_wp2_with (fail)
   go_loopg [26] kl (fun g i wr=>∃ j:Nat,∃ s:zj9,j<=kl/\g=kl - j/\i=.int .i64 j/\RSt w0 S0 B O F W s ((w.heap.size,#[.int .i64 n.1,.int .u64 c0,.int .u64 c1,.int .u64 c2,.int .u64 c3,.slice a kl cap,.int .i64 n.2.2.2.1,.int .i64 n.2.2.2.2.1],27)::X) wr/\z9v N (zov N hf) n j (n.2.2.1.drop j) s=some q)
   case atStart=>exact⟨0,zo7 s1,Nat.zero_le _,rfl,rfl,HD.out,HY2.out⟩
   case round =>
    obtain⟨j,s,hj,rfl,rfl,hr,hkf⟩:=hrel;clear HY2 HD;by_cases hjl:j<kl
    . have hjz:(j:Int)<(kl:Int):=by omega
      have hj0:(0:Int)<=(j:Int):=by omega
      have hjl':j<n.2.2.1.length:=by rw[HKL.out];exact hjl
      obtain⟨b,off,rfl,hall⟩:=zzv HKK.out (by omega);obtain⟨a',cap',d0,d1,d2,d3,hkv,hkc⟩:=hall j hjl';have hc8:=hkc wr hr.sub;rw[z1n5 hjl'] at hkf;have HKF:=Go.Lib.hid (ztg N hkf);have HKV:=Go.Lib.hid hkv;generalize unN (n.2.2.1.getD j zpe)=kd at *;have hra:=hr.alloc #[.int .i64 kd.1,.int .u64 d0,.int .u64 d1,.int .u64 d2,.int .u64 d3,.slice a' kd.2.2.1.length cap',.int .i64 kd.2.2.2.1,.int .i64 kd.2.2.2.2.1] 27;have HRA:=Go.Lib.hid hra;rcases HKF.out with⟨hf1,hq1⟩|⟨hf1,s2,e,s3,hb1,he,hs3,hkr⟩
      . have hFa:(wr.alloc (.cells #[.int .i64 kd.1,.int .u64 d0,.int .u64 d1,.int .u64 d2,.int .u64 d3,.slice a' kd.2.2.1.length cap',.int .i64 kd.2.2.2.1,.int .i64 kd.2.2.2.2.1] 27)).cell? ⟨F,0,none⟩=some (.bool false):=by rw[<- hf1];exact hra.getF.1
        have hst':s=st':=by
         have:=HY.out;rw[hq1,if_pos rfl] at this;exact Option.some.inj this
        have HST:=Go.Lib.hid hst';clear hf1 hq1 hst' hkf hkc hall hr hkv hjl' hra HKF
        go_wp2
        rw[<- HST.out] at HR;exact bodyPost_ret (results_none rfl _ _ _) rfl (HR.out _ (HRA.out.drop (fun p hp=>.tail _ (.tail _ hp))))
      . have hFa:(wr.alloc (.cells #[.int .i64 kd.1,.int .u64 d0,.int .u64 d1,.int .u64 d2,.int .u64 d3,.slice a' kd.2.2.1.length cap',.int .i64 kd.2.2.2.1,.int .i64 kd.2.2.2.2.1] 27)).cell? ⟨F,0,none⟩=some (.bool true):=by rw[<- hf1];exact hra.getF.1
        have hKa:(wr.alloc (.cells #[.int .i64 kd.1,.int .u64 d0,.int .u64 d1,.int .u64 d2,.int .u64 d3,.slice a' kd.2.2.1.length cap',.int .i64 kd.2.2.2.1,.int .i64 kd.2.2.2.2.1] 27)).cell? ⟨w.heap.size,0,none⟩=some (.int .i64 n.1):=hra.own (.tail _ (.head _)) (i:=0) rfl;have HB1:=Go.Lib.hid hb1;have HE1:=Go.Lib.hid he;have HS3:=Go.Lib.hid hs3;have HKR:=Go.Lib.hid hkr;clear hf1 hb1 he hs3 hkr hkf hkc hall hr hkv hjl' hra HKF
        go_upto_region 9 with (fail)
        go_cut [26,39] from 26 to 47 (fun s26 s39 wd=>s26=.int .i64 j/\s39=.bool (decide (n.1=3) && decide (0<j))/\RSt w0 S0 B O F W s ((wr.heap.size,#[.int .i64 kd.1,.int .u64 d0,.int .u64 d1,.int .u64 d2,.int .u64 d3,.slice a' kd.2.2.1.length cap',.int .i64 kd.2.2.2.1,.int .i64 kd.2.2.2.2.1],27)::(w.heap.size,#[.int .i64 n.1,.int .u64 c0,.int .u64 c1,.int .u64 c2,.int .u64 c3,.slice (some ⟨b,off,none⟩) kl cap,.int .i64 n.2.2.2.1,.int .i64 n.2.2.2.2.1],27)::X) wd)
        case first =>
         by_cases h3:n.1=3
         . have h3b:(n.1 == 3)=true:=by simp[h3]
           have H3:=Go.Lib.hid h3;clear h3;by_cases hj1:(0:Int)<(j:Int)
           . go_wp2
             go_meet
             exact⟨rfl,congrArg Value.bool (by rw[decide_eq_true H3.out,decide_eq_true (by omega)];rfl),HRA.out⟩
           . go_wp2
             go_meet
             exact⟨rfl,congrArg Value.bool (by rw[decide_eq_true H3.out,decide_eq_false (by omega)];rfl),HRA.out⟩
         . have h3b:(n.1 == 3)=false:=by simp[h3]
           have H3:=Go.Lib.hid h3;clear h3
           go_wp2
           go_meet
           exact⟨rfl,congrArg Value.bool (by rw[decide_eq_false H3.out];rfl),HRA.out⟩
        case rest =>
        obtain⟨rfl,rfl,hcut⟩:=hcut;have HC9:=Go.Lib.hid hcut;clear hcut HRA
        go_upto_if 39 with (fail)
        go_cut [26] from 26 to 47 (fun s26 wd=>s26=.int .i64 j/\RSt w0 S0 B O F W s2 ((wr.heap.size,#[.int .i64 kd.1,.int .u64 d0,.int .u64 d1,.int .u64 d2,.int .u64 d3,.slice a' kd.2.2.1.length cap',.int .i64 kd.2.2.2.1,.int .i64 kd.2.2.2.2.1],27)::(w.heap.size,#[.int .i64 n.1,.int .u64 c0,.int .u64 c1,.int .u64 c2,.int .u64 c3,.slice (some ⟨b,off,none⟩) kl cap,.int .i64 n.2.2.2.1,.int .i64 n.2.2.2.2.1],27)::X) wd)
        case first =>
         have h1:=HB1.out;cases hbb:(decide (n.1=3) && decide (0<j)) with
         | false =>
           rw[z10d,if_neg (by simpa using hbb)] at h1;obtain rfl:=Option.some.inj h1;clear h1 hbb
           go_wp2
           go_meet
           exact⟨rfl,HC9.out⟩
         | true =>
           rw[z10d,if_pos (by simpa using hbb)] at h1;by_cases hroom:zc8 s.1 1=true
           case neg=>rw[if_neg hroom] at h1;cases h1
           rw[if_pos hroom] at h1;obtain rfl:=Option.some.inj h1;have HB:=Go.Lib.hid (HC9.out.byte N 124 (c:=124) rfl hroom);clear h1 hroom hbb
           go_wp2_with (go_at_call 14;refine HB.out.mono ?_;rintro q1 w1 ⟨⟨v1,rfl⟩,hw1⟩;have HW1:=Go.Lib.hid hw1;clear HB hw1)
           go_meet
           exact⟨rfl,HW1.out⟩
        case rest =>
        obtain⟨rfl,hcut⟩:=hcut;have HC11:=Go.Lib.hid hcut;clear hcut HC9 HB1
        go_upto_region 11 with (fail)
        have y1:=And.intro (HC11.out.getW) (And.intro (HC11.out.eight (.head _)) (HC11.out.eight (.tail _ (.head _))));unfold z14u at y1;have HEN:=Go.Lib.hid (HC11.out.drew.enc N HG.out HN.out HKV.out HE1.out)
        go_region_held3 (fun w'=>(World.cell? w' ⟨W,0,none⟩=some (.func (.func 13) #[] #[.pointer (some ⟨B,0,none⟩),.pointer (some ⟨O,0,none⟩),.pointer (some ⟨F,0,none⟩),.pointer (some ⟨W,0,none⟩)]))/\(World.cell? w' ⟨wr.heap.size,0,none⟩=some (.int .i64 kd.1)/\World.cell? w' ⟨wr.heap.size,1,none⟩=some (.int .u64 d0)/\World.cell? w' ⟨wr.heap.size,2,none⟩=some (.int .u64 d1)/\World.cell? w' ⟨wr.heap.size,3,none⟩=some (.int .u64 d2)/\World.cell? w' ⟨wr.heap.size,4,none⟩=some (.int .u64 d3)/\World.cell? w' ⟨wr.heap.size,5,none⟩=some (Value.slice a' kd.2.2.1.length cap')/\World.cell? w' ⟨wr.heap.size,6,none⟩=some (.int .i64 kd.2.2.2.1)/\World.cell? w' ⟨wr.heap.size,7,none⟩=some (.int .i64 kd.2.2.2.2.1))/\(World.cell? w' ⟨w.heap.size,0,none⟩=some (.int .i64 n.1)/\World.cell? w' ⟨w.heap.size,1,none⟩=some (.int .u64 c0)/\World.cell? w' ⟨w.heap.size,2,none⟩=some (.int .u64 c1)/\World.cell? w' ⟨w.heap.size,3,none⟩=some (.int .u64 c2)/\World.cell? w' ⟨w.heap.size,4,none⟩=some (.int .u64 c3)/\World.cell? w' ⟨w.heap.size,5,none⟩=some (Value.slice (some ⟨b,off,none⟩) kl cap)/\World.cell? w' ⟨w.heap.size,6,none⟩=some (.int .i64 n.2.2.2.1)/\World.cell? w' ⟨w.heap.size,7,none⟩=some (.int .i64 n.2.2.2.2.1))) (first|exact y1|exact y2|exact y3) (first
         | (go_at_call 16;refine HEN.out.mono ?_;rintro q4 w4 ⟨rfl,hw4⟩;have y2:=And.intro (hw4.getW) (And.intro (hw4.eight (.head _)) (hw4.eight (.tail _ (.head _))));unfold z14u at y2;have HWR:=Go.Lib.hid (IH.out kd e w4 _ s2 s3 _ HKV.out hw4 HS3.out);clear hw4 HEN)
         | (go_at_call 13;refine HWR.out.mono ?_;rintro q5 w5 ⟨rfl,hw5⟩;have y3:=And.intro (hw5.getW) (And.intro (hw5.eight (.head _)) (hw5.eight (.tail _ (.head _))));unfold z14u at y3;have HW5:=Go.Lib.hid hw5;clear hw5 HWR))
        all_goals (have hwj:IntKind.i64.wrap ((j:Int)+1)=(j:Int)+1:=z1e5 (by omega))
        all_goals (have hwk:Go.RowKit.wrap64 ((j:Int)+1)=(j:Int)+1:=by unfold Go.RowKit.wrap64;omega)
        all_goals go_wp2
        all_goals (
         go_roundg (kl - (j+1))
         case measure=>go_light;omega
         case rel=>go_light;exact⟨j+1,s3,by omega,rfl,by simp,HW5.out.drop (fun p hp=>.tail _ hp),HKR.out⟩)
    . obtain rfl:j=kl:=by omega
      have hjz:¬ ((j:Int)<(j:Int)):=by omega
      rw[show List.drop j n.2.2.1=[] from List.drop_eq_nil_of_le (by rw[HKL.out];exact Nat.le_refl _),z9v] at hkf;obtain rfl:=Option.some.inj hkf;have hy5:=HY.out;rw[if_neg (by simp),z15p] at hy5;obtain⟨e,he,hy5⟩:=Option.bind_eq_some_iff.1 hy5;dsimp only at he hy5;by_cases hroom:zc8 s.1 (e.length+1)=true
      case neg=>rw[if_neg hroom] at hy5;cases hy5
      rw[if_pos hroom] at hy5;have hst5:=Option.some.inj hy5;have y1:=hr.eight (.head _);have HE5:=Go.Lib.hid (hr.end N HG.out HN.out he);have HRM:=Go.Lib.hid hroom;have HS5:=Go.Lib.hid hst5;clear hkf hy5 he hroom hst5 hr HY HK HKK hy;cases enc with
      | false =>
        go_wp2_with (first
         | (go_at_call 18;refine HE5.out.mono ?_;rintro q4 w4 ⟨rfl,hw4⟩;have HT5:=Go.Lib.hid (hw4.text N e HRM.out);clear hw4 HE5)
         | (go_at_call 17;refine HT5.out.mono ?_;rintro q5 w5 ⟨⟨v5,rfl⟩,hw5⟩;have HW5:=Go.Lib.hid hw5;clear hw5 HT5))
        refine bodyPost_end (results_none rfl _ _ _) rfl (HR.out _ ?_);have:=HS5.out;rw[if_neg (by decide)] at this;rw[<- this];exact HW5.out.drop (fun p hp=>.tail _ hp)
      | true =>
        go_wp2_with (first
         | (go_at_call 18;refine HE5.out.mono ?_;rintro q4 w4 ⟨rfl,hw4⟩;have HT5:=Go.Lib.hid (hw4.text N e HRM.out);clear hw4 HE5)
         | (go_at_call 17;refine HT5.out.mono ?_;rintro q5 w5 ⟨⟨v5,rfl⟩,hw5⟩;have HB5:=Go.Lib.hid (hw5.byte N 41 (c:=41) rfl (by have:=of_decide_eq_true HRM.out;unfold zc8;rw[decide_eq_true_eq,List.length_append];omega));clear hw5 HT5)
         | (go_at_call 14;refine HB5.out.mono ?_;rintro q6 w6 ⟨⟨v6,rfl⟩,hw6⟩;have hO1:w6.cell? ⟨O,0,none⟩=some (.int .i64 s.2.1):=hw6.getO.1;have hO2:=hw6.getO.2;have HW6:=Go.Lib.hid hw6;clear hw6 HB5))
        refine bodyPost_end (results_none rfl _ _ _) rfl (HR.out _ ?_);have:=HS5.out;rw[if_pos trivial] at this;rw[<- this];exact (HW6.out.setO _).drop (fun p hp=>.tail _ hp)
end
end Go.Proofs.YthgcpalmjcomlaaDoorLg
set_option linter.all false
set_option maxRecDepth 100000
namespace Go.Proofs.YthgcpalmjcomlaaDoorLg
noncomputable section
open Go Go.Lift
abbrev PrsT:T:=.pair .str TT0
theorem fail_walk {w:World}{v:Value}{e at_:Int} :
 Calls Tryd.prog 22 #[v,.int .i64 e,.int .i64 at_] w fun r w'=>r=.panicked [{ v:=.iface 34 (.agg #[.int .i64 e,.int .i64 at_]),recovered:=false }]/\w'=w:=by
 go_enter Tryd.func22,Tryd.ntmps22
 go_wp2
 exact⟨rfl,rfl,rfl⟩
def zm (N:Nat):List A->PnRes:=zgr [(0,.box (.pair .str TT0)),(0,.v (.int .i64)),(0,.v (.int .i64))] (fun x=>some ((x.2.1,(x.2.2.1,())):Int×(Int×Unit))) (fun z=>⟨.pair (.int .i64) (.pair (.int .i64) .unit),z⟩)
theorem zy (N:Nat):ContractP Tryd.prog glob 22 34 (zm N):=by
 refine ContractP.hand ⟨_,Tryd.func22,by kernel_rfl,by decide⟩ ?_;intro w S vals ob x y har hS hg hy;obtain⟨x,n,m,u⟩:=x;cases u;obtain⟨⟨v0,hv0,hA0⟩,_⟩:=har.rel 0 _ rfl;obtain⟨⟨v1,hv1,hA1⟩,_⟩:=har.rel 1 _ rfl;obtain⟨⟨v2,hv2,hA2⟩,_⟩:=har.rel 2 _ rfl;have hlen:=har.len;have hvals:vals=[v0,v1,v2]:=by
  match vals,hlen with
  | [a,b,c],_=>cases hv0;cases hv1;cases hv2;rfl
 have e1:=VR.int_inv hA1.1;have e2:=VR.int_inv hA2.1;subst e1;subst e2;subst hvals;cases hy;refine fail_walk.mono ?_;rintro r w' ⟨rfl,rfl⟩;exact⟨rfl,WF.refl _ _,hS⟩
def zwb:Code:=(Tryd.f68.body).getD .skip
def L_59:List (List Nat×List Nat):=[([0],[0]),([0,0,1],[12,0]),([1,0,1],[0]),([0,1,0,1],[0]),([0,1,1],[2,0]),([1,1,1],[2,0])]
def E_59 (N:Nat):Env:=z25 tys glob [] [] [] [0] false [] []
theorem z1of (N:Nat):EnvOk Tryd.prog (E_59 N):=zg mixed zz (FnsOk.nil) (ItsOk.nil)
def z43 (N:Nat):PnT:=pnT [(22,34,zm N)]
theorem z8j (N:Nat):PnOk Tryd.prog glob (z43 N):=PnOk.cons (zy N) (PnOk.nil)
def z57 (N:Nat)(p:DT3)(k0:(Int×(Int×Unit))->Option (Int×(Int×Unit)))(k1:Option (Int×(Int×Unit))):Option (Int×(Int×Unit)) :=
 cond (p.2.1 == (((List.length p.1):Nat):Int))
 (k0 ((1:Int),(p.2.1,())))
 (k1)
def z1m2 (N:Nat)(x:z1d SQ0)(K:ExP->List A->Option (Int×(Int×Unit))):Option (Int×(Int×Unit)) :=
 z57 N x.1 (fun a0=>(K (.pan 34) (mkS [(0,.v TT0)] 0 (a0,())))) (K .normal (mkS SQ0 27 (x.1,())))
def z1jk (N:Nat):HdP (Int×(Int×Unit)):=fun st K=>(unS SQ0 27 (restr [0] 0 st)).bind fun x=>z1m2 N x K
def t1_59 (N:Nat):zbn (Int×(Int×Unit)):=[]
theorem z1gg {N:Nat}{c:Ctx}(hb:Base Tryd.prog (E_59 N) c)(hP:PnOk Tryd.prog glob (z43 N)):z24 Tryd.prog c (zd zwb [0,1]) (z1jk N) :=
 z27 (s:=SQ0) (m:=27) (g:=z1m2 N) [0] (z1o hb hP N (t1_59 N) L_59 zwb TabOkP.nil [0,1] _ rfl) (fun x K=>by kernel_rfl)
def z1j (N:Nat)(p:DT3):Option (Int×(Int×Unit)) :=
 z57 N p
 (fun p1=>some p1)
 (cond (inR p.2.1 (List.length p.1))
 (none)
 (none))
def t_59 (N:Nat):zbn (Int×(Int×Unit)):=[([0,1],z1jk N)]
theorem z1ad (N:Nat)(x:z1d SQ0):zgs (E_59 N) (z43 N) N (t_59 N) L_59 Tryd.f68 34 TT0 (mkS SQ0 0 x) (fun z=>some z)=z1j N x.1:=by kernel_rfl
def z1x (N:Nat):List A->PnRes:=zgr SQ0 (fun x=>z1j N x.1) (fun z=>⟨TT0,z⟩)
theorem z2w (N:Nat):ContractP Tryd.prog glob 68 34 (z1x N) :=
 ContractP.of (E:=E_59 N) (Pn:=z43 N) (H:=t_59 N) (L:=L_59) (N:=N) (body:=zwb) (t:=TT0) (z1of N) (z8j N) Tryd.func68 (by kernel_rfl) (by decide) (fun _ hb=>(TabOkP.cons (z1gg hb (z8j N)) TabOkP.nil)) (fun x y h=>by rw[z1ad];exact h)
def zwa:Code:=(Tryd.f61.body).getD .skip
def L_60:List (List Nat×List Nat):=[([0,0],[7,0]),([1,0],[0]),([0,1,0],[0]),([1],[0])]
def E_60 (N:Nat):Env:=z25 tys glob [(68,z13 N)] [] [] [0] false [] []
theorem z1oe (N:Nat):EnvOk Tryd.prog (E_60 N):=zg mixed zz (FnsOk.cons (z1f N) (FnsOk.nil)) (ItsOk.nil)
def z44 (N:Nat):PnT:=pnT [(68,34,z1x N),(22,34,zm N)]
theorem z8k (N:Nat):PnOk Tryd.prog glob (z44 N):=PnOk.cons (z2w N) (PnOk.cons (zy N) (PnOk.nil))
def z58 (N:Nat)(p:DT3)(b:Int)(k0:(Int×(Int×Unit))->Option (Int×(Int×Unit)))(k1:DT3->Option (Int×(Int×Unit))):Option (Int×(Int×Unit)) :=
 orP ((z1j N p)) (fun z=>k0 z)
 ((z14 N p).bind fun y =>
 cond (y.1 != b)
 (k0 ((2:Int),(y.2.1.2.1,())))
 (k1 y.2.1))
def z1m1 (N:Nat)(x:z1d SQ8)(K:ExP->List A->Option (Int×(Int×Unit))):Option (Int×(Int×Unit)) :=
 z58 N x.1 x.2.1 (fun a0=>(K (.pan 34) (mkS [(0,.v TT0)] 0 (a0,())))) (fun a0=>(K .normal (mkS SQ0 20 (a0,()))))
def z1jj (N:Nat):HdP (Int×(Int×Unit)):=fun st K=>(unS SQ8 19 (restr [0,1] 0 st)).bind fun x=>z1m1 N x K
def t1_60 (N:Nat):zbn (Int×(Int×Unit)):=[]
theorem z1gf {N:Nat}{c:Ctx}(hb:Base Tryd.prog (E_60 N) c)(hP:PnOk Tryd.prog glob (z44 N)):z24 Tryd.prog c (zd zwa [0]) (z1jj N) :=
 z27 (s:=SQ8) (m:=19) (g:=z1m1 N) [0,1] (z1o hb hP N (t1_60 N) L_60 zwa TabOkP.nil [0] _ rfl) (fun x K=>by kernel_rfl)
def z18 (N:Nat)(p:DT3)(b:Int):Option (Int×(Int×Unit)) :=
 z58 N p b
 (fun p1=>some p1)
 (fun p2=>none)
def t_60 (N:Nat):zbn (Int×(Int×Unit)):=[([0],z1jj N)]
theorem z1ac (N:Nat)(x:z1d SQ8):zgs (E_60 N) (z44 N) N (t_60 N) L_60 Tryd.f61 34 TT0 (mkS SQ8 0 x) (fun z=>some z)=z18 N x.1 x.2.1:=by kernel_rfl
def z2i (N:Nat):List A->PnRes:=zgr SQ8 (fun x=>z18 N x.1 x.2.1) (fun z=>⟨TT0,z⟩)
theorem z3w (N:Nat):ContractP Tryd.prog glob 61 34 (z2i N) :=
 ContractP.of (E:=E_60 N) (Pn:=z44 N) (H:=t_60 N) (L:=L_60) (N:=N) (body:=zwa) (t:=TT0) (z1oe N) (z8k N) Tryd.func61 (by kernel_rfl) (by decide) (fun _ hb=>(TabOkP.cons (z1gf hb (z8k N)) TabOkP.nil)) (fun x y h=>by rw[z1ac];exact h)
def zad:Code:=(Tryd.f60.body).getD .skip
def z18i:List (List Nat×List Nat):=[([0],[0]),([0,1],[0,3]),([0,0,1,1],[12,0,3]),([1,0,1,1],[0,3]),([0,1,0,1,1],[0,3]),([0,1,1,1],[0,4,3]),([0,0,1,1,1,1],[0,4,3]),([0,0,0,0,0,1,1,1,1],[37,4,0,3]),([1,0,0,0,0,1,1,1,1],[4,0,3]),(PQ85,[0,3,4]),([0,0,1,0,0,0,1,1,1,1],[0,4,3]),([1,0,1,0,0,0,1,1,1,1],[0,4,3]),([1,0,0,0,1,1,1,1],[0,4,3]),([0,1,1,1,1],[0,3,4]),(zqt,[75,0,3,4]),(z18d,[4,0,3]),(z1ds,[4,0,3]),(z1du,[80,0,3,4]),([1,0,1,1,1,1,1,1],[4,0]),([0,1,0,1,1,1,1,1,1],[4,0]),(z18g,[2,0]),(z18f,[2,0])]
def z174 (N:Nat):Env:=z25 tys glob [(68,z13 N),(70,z7e N)] [] [] [0] false [] []
theorem z1od (N:Nat):EnvOk Tryd.prog (z174 N):=zg mixed zz (FnsOk.cons (z1f N) (FnsOk.cons (zaf N) (FnsOk.nil))) (ItsOk.nil)
def z1c (N:Nat):PnT:=pnT [(68,34,z1x N),(22,34,zm N)]
theorem z3v (N:Nat):PnOk Tryd.prog glob (z1c N):=PnOk.cons (z2w N) (PnOk.cons (zy N) (PnOk.nil))
def z60 (N:Nat)(p:DT3)(from_:Int)(k0:(Int×(Int×Unit))->Option (Int×(Int×Unit)))(k1:DT3->Option (Int×(Int×Unit))):Option (Int×(Int×Unit)) :=
 orP ((z1j N p)) (fun z=>k0 z)
 ((z14 N p).bind fun y =>
 (z50 N y.1).bind fun y1 =>
 cond (!y1)
 (k0 ((2:Int),(from_,())))
 (k1 y.2.1))
def z1m0 (N:Nat)(x:z1d z18a)(K:ExP->List A->Option (Int×(Int×Unit))):Option (Int×(Int×Unit)) :=
 z60 N x.1 x.2.1 (fun a0=>(K (.pan 34) (mkS [(0,.v TT0)] 0 (a0,())))) (fun a0=>(K .normal (mkS z18a 81 (a0,x.2.1,()))))
def z1ji (N:Nat):HdP (Int×(Int×Unit)):=fun st K=>(unS z18a 81 (restr [0,3] 0 st)).bind fun x=>z1m0 N x K
def t1_61 (N:Nat):zbn (Int×(Int×Unit)):=[]
theorem z1ge {N:Nat}{c:Ctx}(hb:Base Tryd.prog (z174 N) c)(hP:PnOk Tryd.prog glob (z1c N)):z24 Tryd.prog c (zd zad [0,1,1]) (z1ji N) :=
 z27 (s:=z18a) (m:=81) (g:=z1m0 N) [0,3] (z1o hb hP N (t1_61 N) z18i zad TabOkP.nil [0,1,1] _ rfl) (fun x K=>by kernel_rfl)
def z42 (N:Nat)(p:DT3)(from_:Int)(n:Int)(k0:Option (Int×(Int×Unit)))(k1:Option (Int×(Int×Unit))):Option (Int×(Int×Unit)) :=
 cond (decide (p.2.1<(((List.length p.1):Nat):Int)))
 (cond (inR p.2.1 (List.length p.1))
 ((z50 N (((UInt8.toNat (List.getD p.1 (Int.toNat p.2.1) (0:UInt8))):Nat):Int)).bind fun y =>
 cond y
 (k0)
 (k1))
 (none))
 (k1)
def z1ko (N:Nat)(x:z1d SQ1)(K:ExP->List A->Option (Int×(Int×Unit))):Option (Int×(Int×Unit)) :=
 z42 N x.1 x.2.1 x.2.2.1 (K .normal (mkS SQ1 80 (x.1,x.2.1,x.2.2.1,()))) (K (.exit 0) (mkS SQ1 80 (x.1,x.2.1,x.2.2.1,())))
def z1i6 (N:Nat):HdP (Int×(Int×Unit)):=fun st K=>(unS SQ1 80 (restr [0,4,3] 0 st)).bind fun x=>z1ko N x K
def t4_61 (N:Nat):zbn (Int×(Int×Unit)):=[]
theorem z1f2 {N:Nat}{c:Ctx}(hb:Base Tryd.prog (z174 N) c)(hP:PnOk Tryd.prog glob (z1c N)):z24 Tryd.prog c (zd zad z1dr) (z1i6 N) :=
 z27 (s:=SQ1) (m:=80) (g:=z1ko N) [0,4,3] (z1o hb hP N (t4_61 N) z18i zad TabOkP.nil z1dr _ rfl) (fun x K=>by kernel_rfl)
def z1t (N:Nat)(from_:Int)(p:DT3)(n:Int)(rec:DT3->Int->Option (Int×(Int×Unit)))(k0:DT3->Int->Option (Int×(Int×Unit))):Option (Int×(Int×Unit)) :=
 z42 N p from_ n
 (cond (inR p.2.1 (List.length p.1))
 (rec (p.1,((IntKind.wrap IntKind.i64 (p.2.1+(1:Int))),p.2.2)) (if ((17:Int)<(IntKind.wrap IntKind.i64 ((IntKind.wrap IntKind.i64 ((10:Int)*n))+(IntKind.wrap IntKind.i64 (IntKind.wrap IntKind.u8 ((((UInt8.toNat (List.getD p.1 (Int.toNat p.2.1) (0:UInt8))):Nat):Int) - (48:Int))))))) then (17:Int) else (IntKind.wrap IntKind.i64 ((IntKind.wrap IntKind.i64 ((10:Int)*n))+(IntKind.wrap IntKind.i64 (IntKind.wrap IntKind.u8 ((((UInt8.toNat (List.getD p.1 (Int.toNat p.2.1) (0:UInt8))):Nat):Int) - (48:Int))))))))
 (none))
 (k0 p n)
def z9q (N:Nat)(p:DT3)(from_:Int)(n:Int)(k0:DT3->Int->Option (Int×(Int×Unit))):Option (Int×(Int×Unit)) :=
 iter (fun (v:(DT3×Int)) r=>z1t N from_ v.1 v.2 (fun p n=>(r (p,n))) k0) N (p,n)
def z1kv (N:Nat)(i:Int)(v:(DT3×Int))(r:(DT3×Int)->Option (Int×(Int×Unit)))(K:ExP->List A->Option (Int×(Int×Unit))):Option (Int×(Int×Unit)) :=
 z1t N i v.1 v.2 (fun p n=>(r (p,n))) (fun a0 a2=>(K (.exit 0) (mkS SQ1 80 (a0,i,a2,()))))
def z1id (N:Nat):HdP (Int×(Int×Unit)):=fun st K=>(unS SQ1 80 (restr [0,4,3] 0 st)).bind fun x=>iter (fun v r=>z1kv N ((fun x=>x.2.1) x) v r K) N ((fun x=>(x.1,x.2.2.1)) x)
def t3_61 (N:Nat):zbn (Int×(Int×Unit)):=[(z1dr,z1i6 N)]
theorem z1f9 {N:Nat}{c:Ctx}(hb:Base Tryd.prog (z174 N) c)(hP:PnOk Tryd.prog glob (z1c N)):z24 Tryd.prog c (zd zad [0,0,1,1,1,1]) (z1id N) :=
 zml (s:=SQ1) (m:=80) (z1kv N) [0,4,3] N (fun x=>x.2.1) (fun x=>(x.1,x.2.2.1)) (fun i v=>(v.1,i,v.2,())) (fun _=>rfl) (z1o hb hP N (t3_61 N) z18i zad (TabOkP.cons (z1f2 hb hP) TabOkP.nil) [0,0,0,1,1,1,1] _ rfl) (fun i v r K=>by kernel_rfl)
def z5z (N:Nat)(p:DT3)(from_:Int)(n:Int)(k0:DT3->Int->Option (Int×(Int×Unit))):Option (Int×(Int×Unit)) :=
 z9q N p from_ n
 (fun p1 n1=>k0 p1 n1)
def z1l9 (N:Nat)(x:z1d SQ1)(K:ExP->List A->Option (Int×(Int×Unit))):Option (Int×(Int×Unit)) :=
 z5z N x.1 x.2.1 x.2.2.1 (fun a0 a2=>(K .normal (mkS SQ1 80 (a0,x.2.1,a2,()))))
def z1ir (N:Nat):HdP (Int×(Int×Unit)):=fun st K=>(unS SQ1 80 (restr [0,4,3] 0 st)).bind fun x=>z1l9 N x K
def t2_61 (N:Nat):zbn (Int×(Int×Unit)):=[([0,0,1,1,1,1],z1id N)]
theorem z1fn {N:Nat}{c:Ctx}(hb:Base Tryd.prog (z174 N) c)(hP:PnOk Tryd.prog glob (z1c N)):z24 Tryd.prog c (zd zad [0,1,1,1,1]) (z1ir N) :=
 z27 (s:=SQ1) (m:=80) (g:=z1l9 N) [0,4,3] (z1o hb hP N (t2_61 N) z18i zad (TabOkP.cons (z1f9 hb hP) TabOkP.nil) [0,1,1,1,1] _ rfl) (fun x K=>by kernel_rfl)
def z5x (N:Nat)(p:DT3)(from_:Int)(n:Int)(k0:Bool->Option (Int×(Int×Unit))):Option (Int×(Int×Unit)) :=
 cond (inR from_ (List.length p.1))
 (cond ((((UInt8.toNat (List.getD p.1 (Int.toNat from_) (0:UInt8))):Nat):Int) == (48:Int))
 (k0 (decide ((IntKind.wrap IntKind.i64 (from_+(1:Int)))<p.2.1)))
 (k0 false))
 (none)
def z1kh (N:Nat)(x:z1d SQ1)(K:ExP->List A->Option (Int×(Int×Unit))):Option (Int×(Int×Unit)) :=
 z5x N x.1 x.2.1 x.2.2.1 (fun a3=>(K .normal (mkS SQ64 9 (x.1,x.2.1,x.2.2.1,a3,()))))
def z1hz (N:Nat):HdP (Int×(Int×Unit)):=fun st K=>(unS SQ1 80 (restr [0,3,4] 0 st)).bind fun x=>z1kh N x K
def t6_61 (N:Nat):zbn (Int×(Int×Unit)):=[]
theorem z1ev {N:Nat}{c:Ctx}(hb:Base Tryd.prog (z174 N) c)(hP:PnOk Tryd.prog glob (z1c N)):z24 Tryd.prog c (zd zad zqt) (z1hz N) :=
 z27 (s:=SQ1) (m:=80) (g:=z1kh N) [0,3,4] (z1o hb hP N (t6_61 N) z18i zad TabOkP.nil zqt _ rfl) (fun x K=>by kernel_rfl)
def z5y (N:Nat)(p:DT3)(from_:Int)(n:Int)(k0:(Int×(Int×Unit))->Option (Int×(Int×Unit)))(k1:Option (Int×(Int×Unit))):Option (Int×(Int×Unit)) :=
 z5x N p from_ n
 (fun x75=>cond x75
 (k0 ((2:Int),(from_,())))
 (k1))
def z1kj (N:Nat)(x:z1d SQ1)(K:ExP->List A->Option (Int×(Int×Unit))):Option (Int×(Int×Unit)) :=
 z5y N x.1 x.2.1 x.2.2.1 (fun a0=>(K (.pan 34) (mkS [(0,.v TT0)] 0 (a0,())))) (K .normal (mkS SQ1 80 (x.1,x.2.1,x.2.2.1,())))
def z1i1 (N:Nat):HdP (Int×(Int×Unit)):=fun st K=>(unS SQ1 80 (restr [0,3,4] 0 st)).bind fun x=>z1kj N x K
def t5_61 (N:Nat):zbn (Int×(Int×Unit)):=[(zqt,z1hz N)]
theorem z1ex {N:Nat}{c:Ctx}(hb:Base Tryd.prog (z174 N) c)(hP:PnOk Tryd.prog glob (z1c N)):z24 Tryd.prog c (zd zad [0,1,1,1,1,1]) (z1i1 N) :=
 z27 (s:=SQ1) (m:=80) (g:=z1kj N) [0,3,4] (z1o hb hP N (t5_61 N) z18i zad (TabOkP.cons (z1ev hb hP) TabOkP.nil) [0,1,1,1,1,1] _ rfl) (fun x K=>by kernel_rfl)
def z38 (N:Nat)(p:DT3):Option (Int×(Int×Unit)) :=
 z60 N p p.2.1
 (fun p1=>some p1)
 (fun p2=>z5z N p2 p.2.1 (0:Int)
 (fun p3 n=>z5y N p3 p.2.1 n
 (fun p4=>some p4)
 (cond (decide ((16:Int)<n))
 (some ((3:Int),(p.2.1,())))
 (none))))
def t_61 (N:Nat):zbn (Int×(Int×Unit)):=[([0,1,1],z1ji N),([0,1,1,1,1],z1ir N),([0,1,1,1,1,1],z1i1 N)]
theorem z1ab (N:Nat)(x:z1d SQ0):zgs (z174 N) (z1c N) N (t_61 N) z18i Tryd.f60 34 TT0 (mkS SQ0 0 x) (fun z=>some z)=z38 N x.1:=by kernel_rfl
def z9c (N:Nat):List A->PnRes:=zgr SQ0 (fun x=>z38 N x.1) (fun z=>⟨TT0,z⟩)
theorem zf3 (N:Nat):ContractP Tryd.prog glob 60 34 (z9c N) :=
 ContractP.of (E:=z174 N) (Pn:=z1c N) (H:=t_61 N) (L:=z18i) (N:=N) (body:=zad) (t:=TT0) (z1od N) (z3v N) Tryd.func60 (by kernel_rfl) (by decide) (fun _ hb=>(TabOkP.cons (z1ge hb (z3v N)) (TabOkP.cons (z1fn hb (z3v N)) (TabOkP.cons (z1ex hb (z3v N)) TabOkP.nil)))) (fun x y h=>by rw[z1ab];exact h)
def zoi:Code:=(Tryd.f69.body).getD .skip
def L_62:List (List Nat×List Nat):=[([0],[0,1]),([0,1],[0,5,1]),([0,1,1],[5,0,1]),([0,0,1,1,1],[16,5,0,1]),([1,0,1,1,1],[5,0,1]),(z1d1,[4,0]),(z1d0,[4,0]),([0,0,1,1,1,1],[24,0,1,5]),([1,0,1,1,1,1],[5,0]),([0,1,0,1,1,1,1],[5,0]),([0,1,1,1,1,1],[4,0]),([1,1,1,1,1,1],[4,0])]
def z1ps (N:Nat):Env:=z25 tys glob [(68,z13 N),(70,z7e N)] [] [] [0] false [] []
theorem z1oc (N:Nat):EnvOk Tryd.prog (z1ps N):=zg mixed zz (FnsOk.cons (z1f N) (FnsOk.cons (zaf N) (FnsOk.nil))) (ItsOk.nil)
def z3i (N:Nat):PnT:=pnT [(68,34,z1x N),(22,34,zm N)]
theorem z9e (N:Nat):PnOk Tryd.prog glob (z3i N):=PnOk.cons (z2w N) (PnOk.cons (zy N) (PnOk.nil))
def z61 (N:Nat)(p:DT3)(from_:Int)(b:Int)(k0:Bool->Option (Int×(Int×Unit))):Option (Int×(Int×Unit)) :=
 cond (decide (b<(97:Int)))
 (k0 true)
 (k0 (decide ((102:Int)<b)))
def z1l8 (N:Nat)(x:z1d z10p)(K:ExP->List A->Option (Int×(Int×Unit))):Option (Int×(Int×Unit)) :=
 z61 N x.1 x.2.1 x.2.2.1 (fun a3=>(K .normal (mkS [(0,.box (.pair .str TT0)),(0,.v (.int .i64)),(3,.v (.int .u8)),(18,.v .bool)] 6 (x.1,x.2.1,x.2.2.1,a3,()))))
def z1iq (N:Nat):HdP (Int×(Int×Unit)):=fun st K=>(unS z10p 25 (restr [5,0,1] 0 st)).bind fun x=>z1l8 N x K
def t2_62 (N:Nat):zbn (Int×(Int×Unit)):=[]
theorem z1fm {N:Nat}{c:Ctx}(hb:Base Tryd.prog (z1ps N) c)(hP:PnOk Tryd.prog glob (z3i N)):z24 Tryd.prog c (zd zoi [0,0,1,1,1,1]) (z1iq N) :=
 z27 (s:=z10p) (m:=25) (g:=z1l8 N) [5,0,1] (z1o hb hP N (t2_62 N) L_62 zoi TabOkP.nil [0,0,1,1,1,1] _ rfl) (fun x K=>by kernel_rfl)
def z62 (N:Nat)(p:DT3)(from_:Int)(b:Int)(k0:(Int×(Int×Unit))->Option (Int×(Int×Unit)))(k1:Option (Int×(Int×Unit))):Option (Int×(Int×Unit)) :=
 z61 N p from_ b
 (fun x24=>cond x24
 (k0 ((2:Int),(from_,())))
 (k1))
def z1lz (N:Nat)(x:z1d z10p)(K:ExP->List A->Option (Int×(Int×Unit))):Option (Int×(Int×Unit)) :=
 z62 N x.1 x.2.1 x.2.2.1 (fun a0=>(K (.pan 34) (mkS [(0,.v TT0)] 0 (a0,())))) (K .normal (mkS [(0,.box (.pair .str TT0)),(4,.v (.int .u8))] 25 (x.1,x.2.2.1,())))
def z1jh (N:Nat):HdP (Int×(Int×Unit)):=fun st K=>(unS z10p 25 (restr [5,0,1] 0 st)).bind fun x=>z1lz N x K
def t1_62 (N:Nat):zbn (Int×(Int×Unit)):=[([0,0,1,1,1,1],z1iq N)]
theorem z1gd {N:Nat}{c:Ctx}(hb:Base Tryd.prog (z1ps N) c)(hP:PnOk Tryd.prog glob (z3i N)):z24 Tryd.prog c (zd zoi [0,1,1,1,1]) (z1jh N) :=
 z27 (s:=z10p) (m:=25) (g:=z1lz N) [5,0,1] (z1o hb hP N (t1_62 N) L_62 zoi (TabOkP.cons (z1fm hb hP) TabOkP.nil) [0,1,1,1,1] _ rfl) (fun x K=>by kernel_rfl)
def z39 (N:Nat)(p:DT3)(from_:Int):Option (Int×(Int×Unit)) :=
 orP ((z1j N p)) (fun z=>some z)
 ((z14 N p).bind fun y =>
 (z50 N y.1).bind fun y1 =>
 cond y1
 (none)
 (z62 N (y.2.1.1,((IntKind.wrap IntKind.i64 (y.2.1.2.1+(1:Int))),y.2.1.2.2)) from_ y.1
 (fun p1=>some p1)
 (none)))
def t_62 (N:Nat):zbn (Int×(Int×Unit)):=[([0,1,1,1,1],z1jh N)]
theorem z1aa (N:Nat)(x:z1d z1dh):zgs (z1ps N) (z3i N) N (t_62 N) L_62 Tryd.f69 34 TT0 (mkS z1dh 0 x) (fun z=>some z)=z39 N x.1 x.2.1:=by kernel_rfl
def z9d (N:Nat):List A->PnRes:=zgr z1dh (fun x=>z39 N x.1 x.2.1) (fun z=>⟨TT0,z⟩)
theorem zf4 (N:Nat):ContractP Tryd.prog glob 69 34 (z9d N) :=
 ContractP.of (E:=z1ps N) (Pn:=z3i N) (H:=t_62 N) (L:=L_62) (N:=N) (body:=zoi) (t:=TT0) (z1oc N) (z9e N) Tryd.func69 (by kernel_rfl) (by decide) (fun _ hb=>(TabOkP.cons (z1gd hb (z9e N)) TabOkP.nil)) (fun x y h=>by rw[z1aa];exact h)
def zw9:Code:=(Tryd.f59.body).getD .skip
def L_63:List (List Nat×List Nat):=[([0],[0,2]),([0,1],[0,2,4]),([0,1,1],[0,2,4]),([0,1,1,1],[0,5,2,4]),([0,1,1,1,1],[5,2,0,4]),([0,0,0,1,1,1,1,1],[22,2,0,5,4]),([1,0,0,1,1,1,1,1],[5,2,0]),([0,1,1,0,0,1,1,1,1,1],[26,2,0,5,4]),([1,1,1,0,0,1,1,1,1,1],[5,2,0]),([0,1,1,1,1,0,0,1,1,1,1,1],[30,0,4,2,5]),([1,1,1,1,1,0,0,1,1,1,1,1],[5,2,0]),([0,1,1,1,1,1,1,0,0,1,1,1,1,1],[42,0,4,5,2]),([1,1,1,1,1,1,1,0,0,1,1,1,1,1],[5,2,0]),([0,1,1,1,1,1,1,1,0,0,1,1,1,1,1],[5,2,0]),([0,0,1,1,1,1,1,0,0,1,1,1,1,1],[6,0,4,2]),([1,0,1,1,1,1,1,0,0,1,1,1,1,1],[5,2,0]),([0,0,1,1,1,0,0,1,1,1,1,1],[2,3,0]),([1,0,1,1,1,0,0,1,1,1,1,1],[2,3,0]),([0,0,1,0,0,1,1,1,1,1],[2,3,0]),([1,0,1,0,0,1,1,1,1,1],[2,3,0]),([0,1,1,1,1,1],[5,2,0]),(zyz,[2,3,0]),(z1dq,[2,3,0])]
def E_63 (N:Nat):Env:=z25 tys glob [(31,z2t N),(37,z2o N),(38,z7s N),(61,z1k N),(68,z13 N),(69,z8c N)] [] [] [0] false [] []
theorem z1ob (N:Nat):EnvOk Tryd.prog (E_63 N):=zg mixed zz (FnsOk.cons (z40 N) (FnsOk.cons (z3r N) (FnsOk.cons (zbb N) (FnsOk.cons (z21 N) (FnsOk.cons (z1f N) (FnsOk.cons (zck N) (FnsOk.nil))))))) (ItsOk.nil)
def z3p (N:Nat):PnT:=pnT [(69,34,z9d N),(61,34,z2i N),(68,34,z1x N),(22,34,zm N)]
theorem z7b (N:Nat):PnOk Tryd.prog glob (z3p N):=PnOk.cons (zf4 N) (PnOk.cons (z3w N) (PnOk.cons (z2w N) (PnOk.cons (zy N) (PnOk.nil))))
def z4m (N:Nat)(p:DT3)(set_:(List Int))(from_:Int)(b:Int)(k0:(List Int)->Bool->Option (Int×(Int×Unit)))(k1:(Int×(Int×Unit))->Option (Int×(Int×Unit)))(k2:DT3->Int->Option (Int×(Int×Unit))):Option (Int×(Int×Unit)) :=
 cond (b == (100:Int))
 ((z1z N (48:Int) (57:Int)).bind fun y =>
 k0 y true)
 (cond (b == (119:Int))
 ((z3q N ((48:UInt8)::(49:UInt8)::(50:UInt8)::(51:UInt8)::(52:UInt8)::(53:UInt8)::(54:UInt8)::(55:UInt8)::(56:UInt8)::(57:UInt8)::(65:UInt8)::(66:UInt8)::(67:UInt8)::(68:UInt8)::(69:UInt8)::(70:UInt8)::(71:UInt8)::(72:UInt8)::(73:UInt8)::(74:UInt8)::(75:UInt8)::(76:UInt8)::(77:UInt8)::(78:UInt8)::(79:UInt8)::(80:UInt8)::(81:UInt8)::(82:UInt8)::(83:UInt8)::(84:UInt8)::(85:UInt8)::(86:UInt8)::(87:UInt8)::(88:UInt8)::(89:UInt8)::(90:UInt8)::(95:UInt8)::(97:UInt8)::(98:UInt8)::(99:UInt8)::(100:UInt8)::(101:UInt8)::(102:UInt8)::(103:UInt8)::(104:UInt8)::(105:UInt8)::(106:UInt8)::(107:UInt8)::(108:UInt8)::(109:UInt8)::(110:UInt8)::(111:UInt8)::(112:UInt8)::(113:UInt8)::(114:UInt8)::(115:UInt8)::(116:UInt8)::(117:UInt8)::(118:UInt8)::(119:UInt8)::(120:UInt8)::(121:UInt8)::(122:UInt8)::([]:List UInt8))).bind fun y1 =>
 k0 y1 true)
 (cond (b == (120:Int))
 (orP ((z39 N p from_)) (fun z=>k1 z)
 ((z3d N p from_).bind fun y2 =>
 orP ((z39 N y2.2.1 from_)) (fun z1=>k1 z1)
 ((z3d N y2.2.1 from_).bind fun y3 =>
 k2 y3.2.1 (bitsOp Go.BinOp.or IntKind.u8 (shlI IntKind.u8 y2.1 (4:Int)) y3.1))))
 (cond (decide ((Go.Lib.indexByte ([(92:UInt8),(46:UInt8),(91:UInt8),(93:UInt8),(40:UInt8),(41:UInt8),(123:UInt8),(125:UInt8),(124:UInt8),(42:UInt8),(43:UInt8),(63:UInt8),(45:UInt8),(94:UInt8)]:List UInt8) (Nat.toUInt8 (Int.toNat b)))<(0:Int)))
 (k1 ((2:Int),(from_,())))
 (k2 p b))))
def z1ly (N:Nat)(x:z1d z1dn)(K:ExP->List A->Option (Int×(Int×Unit))):Option (Int×(Int×Unit)) :=
 z4m N x.1 x.2.1 x.2.2.1 x.2.2.2.1 (fun a1 a2=>(K .ret (mkS SQ42 48 (x.1,a1,a2,())))) (fun a0=>(K (.pan 34) (mkS [(0,.v TT0)] 0 (a0,())))) (fun a0 a2=>(K .normal (mkS [(0,.box (.pair .str TT0)),(1,.box (.arr 4 (.int .u64))),(2,.v (.int .u8))] 46 (a0,x.2.1,a2,()))))
def z1jg (N:Nat):HdP (Int×(Int×Unit)):=fun st K=>(unS z1dn 46 (restr [5,2,0,4] 0 st)).bind fun x=>z1ly N x K
def t1_63 (N:Nat):zbn (Int×(Int×Unit)):=[]
theorem z1gc {N:Nat}{c:Ctx}(hb:Base Tryd.prog (E_63 N) c)(hP:PnOk Tryd.prog glob (z3p N)):z24 Tryd.prog c (zd zw9 [0,1,1,1,1,1]) (z1jg N) :=
 z27 (s:=z1dn) (m:=46) (g:=z1ly N) [5,2,0,4] (z1o hb hP N (t1_63 N) L_63 zw9 TabOkP.nil [0,1,1,1,1,1] _ rfl) (fun x K=>by kernel_rfl)
def z2b (N:Nat)(p:DT3):Option (Int×(Int×Unit)) :=
 orP ((z18 N p (92:Int))) (fun z=>some z)
 ((zw N p (92:Int)).bind fun y =>
 orP ((z1j N y.2.1)) (fun z1=>some z1)
 ((z14 N y.2.1).bind fun y1 =>
 z4m N (y1.2.1.1,((IntKind.wrap IntKind.i64 (y1.2.1.2.1+(1:Int))),y1.2.1.2.2)) ([(0:Int),(0:Int),(0:Int),(0:Int)]:List Int) p.2.1 y1.1
 (fun set_ class_=>none)
 (fun p1=>some p1)
 (fun p2 b=>(z1z N b b).bind fun y2 =>
 none)))
def t_63 (N:Nat):zbn (Int×(Int×Unit)):=[([0,1,1,1,1,1],z1jg N)]
theorem z1a9 (N:Nat)(x:z1d SQ0):zgs (E_63 N) (z3p N) N (t_63 N) L_63 Tryd.f59 34 TT0 (mkS SQ0 0 x) (fun z=>some z)=z2b N x.1:=by kernel_rfl
def z4d (N:Nat):List A->PnRes:=zgr SQ0 (fun x=>z2b N x.1) (fun z=>⟨TT0,z⟩)
theorem z7x (N:Nat):ContractP Tryd.prog glob 59 34 (z4d N) :=
 ContractP.of (E:=E_63 N) (Pn:=z3p N) (H:=t_63 N) (L:=L_63) (N:=N) (body:=zw9) (t:=TT0) (z1ob N) (z7b N) Tryd.func59 (by kernel_rfl) (by decide) (fun _ hb=>(TabOkP.cons (z1gc hb (z7b N)) TabOkP.nil)) (fun x y h=>by rw[z1a9];exact h)
def zoh:Code:=(Tryd.f76.body).getD .skip
def L_64:List (List Nat×List Nat):=[([0],[0,2]),([0,1],[4,0,2]),([0,0,1,1],[7,0,2,4]),([0,0,1,0,1,1],[8,0,2,7,4]),([1,0,1,0,1,1],[0,4,2]),([0,0,1,1,0,1,0,1,1],[14,0,4,2,7]),([1,0,1,1,0,1,0,1,1],[14,0,4,2]),([0,1,1,0,1,1,0,1,0,1,1],[14,0,4,2,7]),([1,1,1,0,1,1,0,1,0,1,1],[14,0,4,2]),([0,1,1,1,1,0,1,1,0,1,0,1,1],[14,0,4,2,7]),([1,1,1,1,1,0,1,1,0,1,0,1,1],[14,0,4,2]),([1,1,1,1,1,1,0,1,1,0,1,0,1,1],[14,0,4,2]),([1,1,1,0,1,0,1,1],[0,4,2]),([0,1,1,1,0,1,0,1,1],[0,4,2]),([0,0,1,0,1,0,1,1],[2,3,0]),([1,0,1,0,1,0,1,1],[2,3,0]),([1,0,1,1],[0,4,2]),([0,1,1,1],[4,2,0]),([0,1,1,1,1],[2,3,0]),([1,1,1,1,1],[2,3,0])]
def z1pr (N:Nat):Env:=z25 tys glob [(37,z2o N),(59,z34 N),(68,z13 N)] [] [] [0] false [] []
theorem z1oa (N:Nat):EnvOk Tryd.prog (z1pr N):=zg mixed zz (FnsOk.cons (z3r N) (FnsOk.cons (z4h N) (FnsOk.cons (z1f N) (FnsOk.nil)))) (ItsOk.nil)
def z33 (N:Nat):PnT:=pnT [(59,34,z4d N),(68,34,z1x N),(22,34,zm N)]
theorem z8i (N:Nat):PnOk Tryd.prog glob (z33 N):=PnOk.cons (z7x N) (PnOk.cons (z2w N) (PnOk.cons (zy N) (PnOk.nil)))
def z55 (N:Nat)(p:DT3)(set_:(List Int))(b:Int)(x7:Int)(k0:Bool->Option (Int×(Int×Unit))):Option (Int×(Int×Unit)) :=
 cond (x7 == (91:Int))
 (k0 (x7 == (91:Int)))
 (cond (x7 == (93:Int))
 (k0 (x7 == (93:Int)))
 (cond (x7 == (45:Int))
 (k0 (x7 == (45:Int)))
 (k0 (x7 == (94:Int)))))
def z1l7 (N:Nat)(x:z1d z1dm)(K:ExP->List A->Option (Int×(Int×Unit))):Option (Int×(Int×Unit)) :=
 z55 N x.1 x.2.1 x.2.2.1 x.2.2.2.1 (fun a3=>(K .normal (mkS SQ61 20 (x.1,x.2.1,x.2.2.1,a3,()))))
def z1ip (N:Nat):HdP (Int×(Int×Unit)):=fun st K=>(unS z1dm 27 (restr [7,0,4,2] 0 st)).bind fun x=>z1l7 N x K
def t2_64 (N:Nat):zbn (Int×(Int×Unit)):=[]
theorem z1fl {N:Nat}{c:Ctx}(hb:Base Tryd.prog (z1pr N) c)(hP:PnOk Tryd.prog glob (z33 N)):z24 Tryd.prog c (zd zoh z18e) (z1ip N) :=
 z27 (s:=z1dm) (m:=27) (g:=z1l7 N) [7,0,4,2] (z1o hb hP N (t2_64 N) L_64 zoh TabOkP.nil z18e _ rfl) (fun x K=>by kernel_rfl)
def z56 (N:Nat)(p:DT3)(set_:(List Int))(b:Int)(k0:(Int×(Int×Unit))->Option (Int×(Int×Unit)))(k1:DT3->(List Int)->Bool->Option (Int×(Int×Unit)))(k2:Option (Int×(Int×Unit))):Option (Int×(Int×Unit)) :=
 cond (b == (92:Int))
 (orP ((z2b N p)) (fun z=>k0 z)
 ((z26 N p).bind fun y =>
 k1 y.2.1 y.1.1 y.1.2.1))
 (z55 N p set_ b b
 (fun x14=>cond x14
 (k0 ((2:Int),(p.2.1,())))
 (k2)))
def z1lx (N:Nat)(x:z1d z18c)(K:ExP->List A->Option (Int×(Int×Unit))):Option (Int×(Int×Unit)) :=
 z56 N x.1 x.2.1 x.2.2.1 (fun a0=>(K (.pan 34) (mkS [(0,.v TT0)] 0 (a0,())))) (fun a0 a1 a2=>(K .ret (mkS SQ42 31 (a0,a1,a2,())))) (K .normal (mkS z18c 30 (x.1,x.2.1,x.2.2.1,())))
def z1jf (N:Nat):HdP (Int×(Int×Unit)):=fun st K=>(unS z18c 30 (restr [4,0,2] 0 st)).bind fun x=>z1lx N x K
def t1_64 (N:Nat):zbn (Int×(Int×Unit)):=[(z18e,z1ip N)]
theorem z1gb {N:Nat}{c:Ctx}(hb:Base Tryd.prog (z1pr N) c)(hP:PnOk Tryd.prog glob (z33 N)):z24 Tryd.prog c (zd zoh [0,1,1]) (z1jf N) :=
 z27 (s:=z18c) (m:=30) (g:=z1lx N) [4,0,2] (z1o hb hP N (t1_64 N) L_64 zoh (TabOkP.cons (z1fl hb hP) TabOkP.nil) [0,1,1] _ rfl) (fun x K=>by kernel_rfl)
def z2u (N:Nat)(p:DT3):Option (Int×(Int×Unit)) :=
 orP ((z1j N p)) (fun z=>some z)
 ((z14 N p).bind fun y =>
 z56 N y.2.1 ([(0:Int),(0:Int),(0:Int),(0:Int)]:List Int) y.1
 (fun p1=>some p1)
 (fun p2 set_ class_=>none)
 ((z1z N y.1 y.1).bind fun y1 =>
 none))
def t_64 (N:Nat):zbn (Int×(Int×Unit)):=[([0,1,1],z1jf N)]
theorem z1a8 (N:Nat)(x:z1d SQ0):zgs (z1pr N) (z33 N) N (t_64 N) L_64 Tryd.f76 34 TT0 (mkS SQ0 0 x) (fun z=>some z)=z2u N x.1:=by kernel_rfl
def z8h (N:Nat):List A->PnRes:=zgr SQ0 (fun x=>z2u N x.1) (fun z=>⟨TT0,z⟩)
theorem ze9 (N:Nat):ContractP Tryd.prog glob 76 34 (z8h N) :=
 ContractP.of (E:=z1pr N) (Pn:=z33 N) (H:=t_64 N) (L:=L_64) (N:=N) (body:=zoh) (t:=TT0) (z1oa N) (z8i N) Tryd.func76 (by kernel_rfl) (by decide) (fun _ hb=>(TabOkP.cons (z1gb hb (z8i N)) TabOkP.nil)) (fun x y h=>by rw[z1a8];exact h)
def zfn:Code:=(Tryd.f66.body).getD .skip
def z1dx:List (List Nat×List Nat):=[([0],[0,2]),([0,1],[4,0,3,2]),([0,0,1,1],[17,3,2,0]),([1,0,1,1],[0,3,2]),([0,0,1,0,1,1],[2,0]),([1,0,1,0,1,1],[2,0]),([0,1,1,1],[0,3,5,2]),([0,1,1,1,1],[4,6,3,0,5,2]),(zqt,[35,0,5,3,6,2]),(z18d,[3,6,2,0]),(z1ds,[3,6,2,0]),(zyz,[2,0]),(z1dq,[2,0])]
def z1d5 (N:Nat):Env:=z25 tys glob [(29,z1i N),(36,z5i N),(37,z2o N),(76,z77 N)] [] [] [0] false [] []
theorem z1o9 (N:Nat):EnvOk Tryd.prog (z1d5 N):=zg mixed zz (FnsOk.cons (z20 N) (FnsOk.cons (z8v N) (FnsOk.cons (z3r N) (FnsOk.cons (zbe N) (FnsOk.nil))))) (ItsOk.nil)
def z1u (N:Nat):PnT:=pnT [(76,34,z8h N),(22,34,zm N)]
theorem z4x (N:Nat):PnOk Tryd.prog glob (z1u N):=PnOk.cons (ze9 N) (PnOk.cons (zy N) (PnOk.nil))
def z5b (N:Nat)(p:DT3)(x2:(List Int))(first:(List Int))(class_:Bool)(k0:DT3->Bool->Option (Int×(Int×Unit))):Option (Int×(Int×Unit)) :=
 cond class_
 (k0 p true)
 ((zu N p (45:Int)).bind fun y =>
 k0 y.2.1 (!y.1))
def z1l6 (N:Nat)(x:z1d SQ5)(K:ExP->List A->Option (Int×(Int×Unit))):Option (Int×(Int×Unit)) :=
 z5b N x.1 x.2.1 x.2.2.1 x.2.2.2.1 (fun a0 a3=>(K .normal (mkS SQ55 28 (a0,x.2.1,x.2.2.1,a3,()))))
def z1io (N:Nat):HdP (Int×(Int×Unit)):=fun st K=>(unS SQ5 41 (restr [4,0,3,2] 0 st)).bind fun x=>z1l6 N x K
def t2_65 (N:Nat):zbn (Int×(Int×Unit)):=[]
theorem z1fk {N:Nat}{c:Ctx}(hb:Base Tryd.prog (z1d5 N) c)(hP:PnOk Tryd.prog glob (z1u N)):z24 Tryd.prog c (zd zfn [0,0,1,1]) (z1io N) :=
 z27 (s:=SQ5) (m:=41) (g:=z1l6 N) [4,0,3,2] (z1o hb hP N (t2_65 N) z1dx zfn TabOkP.nil [0,0,1,1] _ rfl) (fun x K=>by kernel_rfl)
def z5c (N:Nat)(p:DT3)(x2:(List Int))(first:(List Int))(class_:Bool)(k0:DT3->Option (Int×(Int×Unit)))(k1:DT3->Option (Int×(Int×Unit))):Option (Int×(Int×Unit)) :=
 z5b N p x2 first class_
 (fun p1 x17=>cond x17
 (k0 p1)
 (k1 p1))
def z1lw (N:Nat)(x:z1d SQ5)(K:ExP->List A->Option (Int×(Int×Unit))):Option (Int×(Int×Unit)) :=
 z5c N x.1 x.2.1 x.2.2.1 x.2.2.2.1 (fun a0=>(K .ret (mkS [(0,.box (.pair .str TT0)),(1,.box (.arr 4 (.int .u64)))] 43 (a0,x.2.2.1,())))) (fun a0=>(K .normal (mkS SQ63 42 (a0,x.2.1,x.2.2.1,()))))
def z1je (N:Nat):HdP (Int×(Int×Unit)):=fun st K=>(unS SQ5 41 (restr [4,0,3,2] 0 st)).bind fun x=>z1lw N x K
def t1_65 (N:Nat):zbn (Int×(Int×Unit)):=[([0,0,1,1],z1io N)]
theorem z1ga {N:Nat}{c:Ctx}(hb:Base Tryd.prog (z1d5 N) c)(hP:PnOk Tryd.prog glob (z1u N)):z24 Tryd.prog c (zd zfn [0,1,1]) (z1je N) :=
 z27 (s:=SQ5) (m:=41) (g:=z1lw N) [4,0,3,2] (z1o hb hP N (t1_65 N) z1dx zfn (TabOkP.cons (z1fk hb hP) TabOkP.nil) [0,1,1] _ rfl) (fun x K=>by kernel_rfl)
def z59 (N:Nat)(p:DT3)(x2:(List Int))(first:(List Int))(class_:Bool)(from_:Int)(last:(List Int))(k0:Bool->Option (Int×(Int×Unit))):Option (Int×(Int×Unit)) :=
 cond class_
 (k0 true)
 ((z1e N last).bind fun y =>
 (z1e N first).bind fun y1 =>
 k0 (decide (y<y1)))
def z1kn (N:Nat)(x:z1d SQ2)(K:ExP->List A->Option (Int×(Int×Unit))):Option (Int×(Int×Unit)) :=
 z59 N x.1 x.2.1 x.2.2.1 x.2.2.2.1 x.2.2.2.2.1 x.2.2.2.2.2.1 (fun a5=>(K .normal (mkS SQ39 10 (x.1,x.2.1,x.2.2.1,x.2.2.2.2.1,x.2.2.2.2.2.1,a5,()))))
def z1i5 (N:Nat):HdP (Int×(Int×Unit)):=fun st K=>(unS SQ2 39 (restr [4,6,3,0,5,2] 0 st)).bind fun x=>z1kn N x K
def t4_65 (N:Nat):zbn (Int×(Int×Unit)):=[]
theorem z1f1 {N:Nat}{c:Ctx}(hb:Base Tryd.prog (z1d5 N) c)(hP:PnOk Tryd.prog glob (z1u N)):z24 Tryd.prog c (zd zfn zqt) (z1i5 N) :=
 z27 (s:=SQ2) (m:=39) (g:=z1kn N) [4,6,3,0,5,2] (z1o hb hP N (t4_65 N) z1dx zfn TabOkP.nil zqt _ rfl) (fun x K=>by kernel_rfl)
def z5a (N:Nat)(p:DT3)(x2:(List Int))(first:(List Int))(class_:Bool)(from_:Int)(last:(List Int))(k0:(Int×(Int×Unit))->Option (Int×(Int×Unit)))(k1:Option (Int×(Int×Unit))):Option (Int×(Int×Unit)) :=
 z59 N p x2 first class_ from_ last
 (fun x35=>cond x35
 (k0 ((2:Int),(from_,())))
 (k1))
def z1ku (N:Nat)(x:z1d SQ2)(K:ExP->List A->Option (Int×(Int×Unit))):Option (Int×(Int×Unit)) :=
 z5a N x.1 x.2.1 x.2.2.1 x.2.2.2.1 x.2.2.2.2.1 x.2.2.2.2.2.1 (fun a0=>(K (.pan 34) (mkS [(0,.v TT0)] 0 (a0,())))) (K .normal (mkS SQ48 39 (x.1,x.2.1,x.2.2.1,x.2.2.2.2.2.1,())))
def z1ic (N:Nat):HdP (Int×(Int×Unit)):=fun st K=>(unS SQ2 39 (restr [4,6,3,0,5,2] 0 st)).bind fun x=>z1ku N x K
def t3_65 (N:Nat):zbn (Int×(Int×Unit)):=[(zqt,z1i5 N)]
theorem z1f8 {N:Nat}{c:Ctx}(hb:Base Tryd.prog (z1d5 N) c)(hP:PnOk Tryd.prog glob (z1u N)):z24 Tryd.prog c (zd zfn [0,1,1,1,1,1]) (z1ic N) :=
 z27 (s:=SQ2) (m:=39) (g:=z1ku N) [4,6,3,0,5,2] (z1o hb hP N (t3_65 N) z1dx zfn (TabOkP.cons (z1f1 hb hP) TabOkP.nil) [0,1,1,1,1,1] _ rfl) (fun x K=>by kernel_rfl)
def z2x (N:Nat)(p:DT3):Option (Int×(Int×Unit)) :=
 orP ((z2u N p)) (fun z=>some z)
 ((z2v N p).bind fun y =>
 z5c N y.2.1 ([(0:Int),(0:Int),(0:Int),(0:Int)]:List Int) y.1.1 y.1.2.1
 (fun p1=>none)
 (fun p2=>orP ((z2u N p2)) (fun z1=>some z1)
 ((z2v N p2).bind fun y1 =>
 z5a N y1.2.1 ([(0:Int),(0:Int),(0:Int),(0:Int)]:List Int) y.1.1 y1.1.2.1 p2.2.1 y1.1.1
 (fun p3=>some p3)
 ((z1e N y.1.1).bind fun y2 =>
 (z1e N y1.1.1).bind fun y3 =>
 (z1z N (IntKind.wrap IntKind.u8 y2) (IntKind.wrap IntKind.u8 y3)).bind fun y4 =>
 none))))
def t_65 (N:Nat):zbn (Int×(Int×Unit)):=[([0,1,1],z1je N),([0,1,1,1,1,1],z1ic N)]
theorem z1a7 (N:Nat)(x:z1d SQ0):zgs (z1d5 N) (z1u N) N (t_65 N) z1dx Tryd.f66 34 TT0 (mkS SQ0 0 x) (fun z=>some z)=z2x N x.1:=by kernel_rfl
def z8l (N:Nat):List A->PnRes:=zgr SQ0 (fun x=>z2x N x.1) (fun z=>⟨TT0,z⟩)
theorem zea (N:Nat):ContractP Tryd.prog glob 66 34 (z8l N) :=
 ContractP.of (E:=z1d5 N) (Pn:=z1u N) (H:=t_65 N) (L:=z1dx) (N:=N) (body:=zfn) (t:=TT0) (z1o9 N) (z4x N) Tryd.func66 (by kernel_rfl) (by decide) (fun _ hb=>(TabOkP.cons (z1ga hb (z4x N)) (TabOkP.cons (z1f8 hb (z4x N)) TabOkP.nil))) (fun x y h=>by rw[z1a7];exact h)
def zw8:Code:=(Tryd.f58.body).getD .skip
def L_66:List (List Nat×List Nat):=[([0],[0,2]),([0,1],[0,2]),([0,1,1],[0,3,2]),([0,1,1,1],[0,4,3,2]),([0,0,1,1,1,1],[0,4,3,2]),([0,0,0,0,0,1,1,1,1],[13,4,0,3,2]),([1,0,0,0,0,1,1,1,1],[4,0,3,2]),(PQ85,[3,4,2,0]),([0,1,0,0,0,1,1,1,1],[0,4,3,2]),([1,0,0,0,1,1,1,1],[0,4,3,2]),([0,1,1,1,1],[3,4,2,0]),(zqt,[18,4,2,0]),(z18d,[4,2,0]),([0,0,1,0,1,1,1,1,1],[2,0]),([1,0,1,0,1,1,1,1,1],[2,0]),(zyz,[2,0]),(z1dq,[2,0])]
def E_66 (N:Nat):Env:=z25 tys glob [(29,z1i N),(54,z9z N),(61,z1k N),(66,z79 N),(67,zdw N)] [] [] [0] false [] []
theorem z1o8 (N:Nat):EnvOk Tryd.prog (E_66 N):=zg mixed zz (FnsOk.cons (z20 N) (FnsOk.cons (zdx N) (FnsOk.cons (z21 N) (FnsOk.cons (zbf N) (FnsOk.cons (zk6 N) (FnsOk.nil)))))) (ItsOk.nil)
def z36 (N:Nat):PnT:=pnT [(66,34,z8l N),(61,34,z2i N)]
theorem z6h (N:Nat):PnOk Tryd.prog glob (z36 N):=PnOk.cons (zea N) (PnOk.cons (z3w N) (PnOk.nil))
def z30 (N:Nat)(x2:(List Int))(not_:Bool)(p:DT3)(set_:(List Int))(rec:DT3->(List Int)->Option (Int×(Int×Unit)))(k0:(Int×(Int×Unit))->Option (Int×(Int×Unit)))(k1:DT3->(List Int)->Option (Int×(Int×Unit))):Option (Int×(Int×Unit)) :=
 (zu N p (93:Int)).bind fun y =>
 cond (!y.1)
 (orP ((z2x N y.2.1)) (fun z=>k0 z)
 ((z2y N y.2.1).bind fun y1 =>
 (zac N set_ y1.1).bind fun y2 =>
 rec y1.2.1 y2))
 (k1 y.2.1 set_)
def z6x (N:Nat)(p:DT3)(x2:(List Int))(not_:Bool)(set_:(List Int))(k0:(Int×(Int×Unit))->Option (Int×(Int×Unit)))(k1:DT3->(List Int)->Option (Int×(Int×Unit))):Option (Int×(Int×Unit)) :=
 iter (fun (v:(DT3×(List Int))) r=>z30 N x2 not_ v.1 v.2 (fun p set_=>(r (p,set_))) k0 k1) N (p,set_)
def z1lv (N:Nat)(i:((List Int)×Bool))(v:(DT3×(List Int)))(r:(DT3×(List Int))->Option (Int×(Int×Unit)))(K:ExP->List A->Option (Int×(Int×Unit))):Option (Int×(Int×Unit)) :=
 z30 N i.1 i.2 v.1 v.2 (fun p set_=>(r (p,set_))) (fun a0=>(K (.pan 34) (mkS [(0,.v TT0)] 0 (a0,())))) (fun a0 a3=>(K (.exit 0) (mkS z1dp 17 (a0,i.1,i.2,a3,()))))
def z1jd (N:Nat):HdP (Int×(Int×Unit)):=fun st K=>(unS z1dp 17 (restr [0,4,3,2] 0 st)).bind fun x=>iter (fun v r=>z1lv N ((fun x=>(x.2.1,x.2.2.1)) x) v r K) N ((fun x=>(x.1,x.2.2.2.1)) x)
def t1_66 (N:Nat):zbn (Int×(Int×Unit)):=[]
theorem z1g9 {N:Nat}{c:Ctx}(hb:Base Tryd.prog (E_66 N) c)(hP:PnOk Tryd.prog glob (z36 N)):z24 Tryd.prog c (zd zw8 [0,0,1,1,1,1]) (z1jd N) :=
 zml (s:=z1dp) (m:=17) (z1lv N) [0,4,3,2] N (fun x=>(x.2.1,x.2.2.1)) (fun x=>(x.1,x.2.2.2.1)) (fun i v=>(v.1,i.1,i.2,v.2,())) (fun _=>rfl) (z1o hb hP N (t1_66 N) L_66 zw8 TabOkP.nil [0,0,0,1,1,1,1] _ rfl) (fun i v r K=>by kernel_rfl)
def z2j (N:Nat)(p:DT3):Option (Int×(Int×Unit)) :=
 orP ((z18 N p (91:Int))) (fun z=>some z)
 ((zw N p (91:Int)).bind fun y =>
 (zu N y.2.1 (94:Int)).bind fun y1 =>
 orP ((z2x N y1.2.1)) (fun z1=>some z1)
 ((z2y N y1.2.1).bind fun y2 =>
 z6x N y2.2.1 ([(0:Int),(0:Int),(0:Int),(0:Int)]:List Int) y1.1 y2.1
 (fun p1=>some p1)
 (fun p2 set_=>cond y1.1
 ((z7j N set_).bind fun y3 =>
 none)
 (none))))
def t_66 (N:Nat):zbn (Int×(Int×Unit)):=[([0,0,1,1,1,1],z1jd N)]
theorem z1a6 (N:Nat)(x:z1d SQ0):zgs (E_66 N) (z36 N) N (t_66 N) L_66 Tryd.f58 34 TT0 (mkS SQ0 0 x) (fun z=>some z)=z2j N x.1:=by kernel_rfl
def z6g (N:Nat):List A->PnRes:=zgr SQ0 (fun x=>z2j N x.1) (fun z=>⟨TT0,z⟩)
theorem zbr (N:Nat):ContractP Tryd.prog glob 58 34 (z6g N) :=
 ContractP.of (E:=E_66 N) (Pn:=z36 N) (H:=t_66 N) (L:=L_66) (N:=N) (body:=zw8) (t:=TT0) (z1o8 N) (z6h N) Tryd.func58 (by kernel_rfl) (by decide) (fun _ hb=>(TabOkP.cons (z1g9 hb (z6h N)) TabOkP.nil)) (fun x y h=>by rw[z1a6];exact h)
def zog:Code:=(Tryd.f51.body).getD .skip
def L_67:List (List Nat×List Nat):=[([0],[0]),([0,1],[0,4]),([0,1,1],[2,0,4]),([0,1,1,1],[0,2,3,4]),([0,0,1,1,1,1],[13,0,2,3,4]),([1,0,1,1,1,1],[3,2,0,4]),([0,0,0,1,0,1,1,1,1],[15,2,0]),([1,0,0,1,0,1,1,1,1],[0,2]),([0,0,1,0,0,1,0,1,1,1,1],[2,3,0]),([1,0,1,0,0,1,0,1,1,1,1],[2,3,0]),([0,1,0,1,0,1,1,1,1],[0,2,4]),([1,1,0,1,0,1,1,1,1],[3,2,0,4]),(zqt,[26,0,4,2,3]),(z18d,[0,2,3]),(z1ds,[0,2,3]),(zyz,[2,3,0]),(z18g,[2,3,0]),(z18f,[2,3,0])]
def z1pq (N:Nat):Env:=z25 tys glob [(29,z1i N),(60,z85 N),(61,z1k N)] [] [] [0] false [] []
theorem z1o7 (N:Nat):EnvOk Tryd.prog (z1pq N):=zg mixed zz (FnsOk.cons (z20 N) (FnsOk.cons (zcj N) (FnsOk.cons (z21 N) (FnsOk.nil)))) (ItsOk.nil)
def z2k (N:Nat):PnT:=pnT [(60,34,z9c N),(61,34,z2i N),(22,34,zm N)]
theorem z4f (N:Nat):PnOk Tryd.prog glob (z2k N):=PnOk.cons (zf3 N) (PnOk.cons (z3w N) (PnOk.cons (zy N) (PnOk.nil)))
def z4n (N:Nat)(p:DT3)(low:Int)(high:Int)(from_:Int)(k0:DT3->Int->Option (Int×(Int×Unit)))(k1:(Int×(Int×Unit))->Option (Int×(Int×Unit)))(k2:DT3->Int->Int->Option (Int×(Int×Unit))):Option (Int×(Int×Unit)) :=
 (zu N p (44:Int)).bind fun y =>
 cond y.1
 ((zu N y.2.1 (125:Int)).bind fun y1 =>
 cond y1.1
 (k0 y1.2.1 (-(1:Int)))
 (orP ((z38 N y1.2.1)) (fun z=>k1 z)
 ((z3c N y1.2.1).bind fun y2 =>
 k2 y2.2.1 y2.1 y1.2.1.2.1)))
 (k2 y.2.1 high from_)
def z1lu (N:Nat)(x:z1d SQ6)(K:ExP->List A->Option (Int×(Int×Unit))):Option (Int×(Int×Unit)) :=
 z4n N x.1 x.2.1 x.2.2.1 x.2.2.2.1 (fun a0 a2=>(K .ret (mkS SQ47 30 (a0,x.2.1,a2,())))) (fun a0=>(K (.pan 34) (mkS [(0,.v TT0)] 0 (a0,())))) (fun a0 a2 a3=>(K .normal (mkS SQ6 29 (a0,x.2.1,a2,a3,()))))
def z1jc (N:Nat):HdP (Int×(Int×Unit)):=fun st K=>(unS SQ6 29 (restr [0,2,3,4] 0 st)).bind fun x=>z1lu N x K
def t1_67 (N:Nat):zbn (Int×(Int×Unit)):=[]
theorem z1g8 {N:Nat}{c:Ctx}(hb:Base Tryd.prog (z1pq N) c)(hP:PnOk Tryd.prog glob (z2k N)):z24 Tryd.prog c (zd zog [0,1,1,1,1]) (z1jc N) :=
 z27 (s:=SQ6) (m:=29) (g:=z1lu N) [0,2,3,4] (z1o hb hP N (t1_67 N) L_67 zog TabOkP.nil [0,1,1,1,1] _ rfl) (fun x K=>by kernel_rfl)
def z3g (N:Nat)(p:DT3)(low:Int)(high:Int)(from_:Int)(k0:(Int×(Int×Unit))->Option (Int×(Int×Unit)))(k1:Option (Int×(Int×Unit))):Option (Int×(Int×Unit)) :=
 cond (decide (high<(if ((1:Int) > low) then (1:Int) else low)))
 (k0 ((2:Int),(from_,())))
 (k1)
def z1l5 (N:Nat)(x:z1d SQ6)(K:ExP->List A->Option (Int×(Int×Unit))):Option (Int×(Int×Unit)) :=
 z3g N x.1 x.2.1 x.2.2.1 x.2.2.2.1 (fun a0=>(K (.pan 34) (mkS [(0,.v TT0)] 0 (a0,())))) (K .normal (mkS SQ47 30 (x.1,x.2.1,x.2.2.1,())))
def z1in (N:Nat):HdP (Int×(Int×Unit)):=fun st K=>(unS SQ6 29 (restr [3,2,0,4] 0 st)).bind fun x=>z1l5 N x K
def t2_67 (N:Nat):zbn (Int×(Int×Unit)):=[]
theorem z1fj {N:Nat}{c:Ctx}(hb:Base Tryd.prog (z1pq N) c)(hP:PnOk Tryd.prog glob (z2k N)):z24 Tryd.prog c (zd zog [0,1,1,1,1,1]) (z1in N) :=
 z27 (s:=SQ6) (m:=29) (g:=z1l5 N) [3,2,0,4] (z1o hb hP N (t2_67 N) L_67 zog TabOkP.nil [0,1,1,1,1,1] _ rfl) (fun x K=>by kernel_rfl)
def z37 (N:Nat)(p:DT3):Option (Int×(Int×Unit)) :=
 orP ((z38 N p)) (fun z=>some z)
 ((z3c N p).bind fun y =>
 z4n N y.2.1 y.1 y.1 p.2.1
 (fun p1 high=>none)
 (fun p2=>some p2)
 (fun p3 high1 from_=>z3g N p3 y.1 high1 from_
 (fun p4=>some p4)
 (orP ((z18 N p3 (125:Int))) (fun z1=>some z1)
 ((zw N p3 (125:Int)).bind fun y1 =>
 none))))
def t_67 (N:Nat):zbn (Int×(Int×Unit)):=[([0,1,1,1,1],z1jc N),([0,1,1,1,1,1],z1in N)]
theorem z1a5 (N:Nat)(x:z1d SQ0):zgs (z1pq N) (z2k N) N (t_67 N) L_67 Tryd.f51 34 TT0 (mkS SQ0 0 x) (fun z=>some z)=z37 N x.1:=by kernel_rfl
def z7c (N:Nat):List A->PnRes:=zgr SQ0 (fun x=>z37 N x.1) (fun z=>⟨TT0,z⟩)
theorem zd7 (N:Nat):ContractP Tryd.prog glob 51 34 (z7c N) :=
 ContractP.of (E:=z1pq N) (Pn:=z2k N) (H:=t_67 N) (L:=L_67) (N:=N) (body:=zog) (t:=TT0) (z1o7 N) (z4f N) Tryd.func51 (by kernel_rfl) (by decide) (fun _ hb=>(TabOkP.cons (z1g8 hb (z4f N)) (TabOkP.cons (z1fj hb (z4f N)) TabOkP.nil))) (fun x y h=>by rw[z1a5];exact h)
abbrev z7:Type:=DT3->Option (Int×(Int×Unit))
def zw7:Code:=(Tryd.f56.body).getD .skip
def L_68:List (List Nat×List Nat):=[([0],[0,2]),([0,0,1],[8,0,2]),([1,0,1],[0,2]),([0,1,0,1],[0,2]),([0,1,1],[0,2]),([0,1,1,1],[0,2]),([0,1,1,1,1],[0,3,2]),([0,1,1,1,1,1],[0,3,2]),(zyz,[3,2,0]),(z18g,[2,0]),(z18f,[2,0])]
def E_68 (N:Nat)(self:z7):Env:=z25 tys glob [(21,zbh N),(61,z1k N)] [] [] [0] false [] []
theorem z1o6 (N:Nat)(self:z7):EnvOk Tryd.prog (E_68 N self):=zg mixed zz (FnsOk.cons (z2s N) (FnsOk.cons (z21 N) (FnsOk.nil))) (ItsOk.nil)
def z3x (N:Nat)(self:z7):PnT:=pnT [(61,34,z2i N),(22,34,zm N),(21,34,zgr SQ0 (fun x=>self x.1) (fun z=>⟨TT0,z⟩))]
theorem z7w (N:Nat)(self:z7)(hself:ContractP Tryd.prog glob 21 34 (zgr SQ0 (fun x=>self x.1) (fun z=>⟨TT0,z⟩))):PnOk Tryd.prog glob (z3x N self):=PnOk.cons (z3w N) (PnOk.cons (zy N) (PnOk.cons (hself) (PnOk.nil)))
def z4y (N:Nat)(self:z7)(p:DT3)(x2:DT2)(k0:(Int×(Int×Unit))->Option (Int×(Int×Unit)))(k1:Option (Int×(Int×Unit))):Option (Int×(Int×Unit)) :=
 cond (p.2.2.1 == (16:Int))
 (k0 ((3:Int),(p.2.1,())))
 (k1)
def z1lt (N:Nat)(self:z7)(x:z1d z189)(K:ExP->List A->Option (Int×(Int×Unit))):Option (Int×(Int×Unit)) :=
 z4y N self x.1 x.2.1 (fun a0=>(K (.pan 34) (mkS [(0,.v TT0)] 0 (a0,())))) (K .normal (mkS z189 33 (x.1,x.2.1,())))
def z1jb (N:Nat)(self:z7):HdP (Int×(Int×Unit)):=fun st K=>(unS z189 33 (restr [0,2] 0 st)).bind fun x=>z1lt N self x K
def t1_68 (N:Nat)(self:z7):zbn (Int×(Int×Unit)):=[]
theorem z1g7 {N:Nat}{self:z7}{c:Ctx}(hb:Base Tryd.prog (E_68 N self) c)(hP:PnOk Tryd.prog glob (z3x N self)):z24 Tryd.prog c (zd zw7 [0,1]) (z1jb N self) :=
 z27 (s:=z189) (m:=33) (g:=z1lt N self) [0,2] (z1o hb hP N (t1_68 N self) L_68 zw7 TabOkP.nil [0,1] _ rfl) (fun x K=>by kernel_rfl)
def z3j (N:Nat)(self:z7)(p:DT3):Option (Int×(Int×Unit)) :=
 z4y N self p ((0:Int),(([(0:Int),(0:Int),(0:Int),(0:Int)]:List Int),(([]:List Tree),((0:Int),((0:Int),())))))
 (fun p1=>some p1)
 (orP ((z18 N (p.1,(p.2.1,((IntKind.wrap IntKind.i64 (p.2.2.1+(1:Int))),p.2.2.2))) (40:Int))) (fun z=>some z)
 ((zw N (p.1,(p.2.1,((IntKind.wrap IntKind.i64 (p.2.2.1+(1:Int))),p.2.2.2))) (40:Int)).bind fun y =>
 orP ((self y.2.1)) (fun z1=>some z1)
 ((zf N y.2.1).bind fun y1 =>
 orP ((z18 N y1.2.1 (41:Int))) (fun z2=>some z2)
 ((zw N y1.2.1 (41:Int)).bind fun y2 =>
 none))))
def t_68 (N:Nat)(self:z7):zbn (Int×(Int×Unit)):=[([0,1],z1jb N self)]
theorem z1a4 (N:Nat)(self:z7)(x:z1d SQ0):zgs (E_68 N self) (z3x N self) N (t_68 N self) L_68 Tryd.f56 34 TT0 (mkS SQ0 0 x) (fun z=>some z)=z3j N self x.1:=by kernel_rfl
def z7v (N:Nat)(self:z7):List A->PnRes:=zgr SQ0 (fun x=>z3j N self x.1) (fun z=>⟨TT0,z⟩)
theorem zdr (N:Nat)(self:z7)(hself:ContractP Tryd.prog glob 21 34 (zgr SQ0 (fun x=>self x.1) (fun z=>⟨TT0,z⟩))):ContractP Tryd.prog glob 56 34 (z7v N self) :=
 ContractP.of (E:=E_68 N self) (Pn:=z3x N self) (H:=t_68 N self) (L:=L_68) (N:=N) (body:=zw7) (t:=TT0) (z1o6 N self) (z7w N self hself) Tryd.func56 (by kernel_rfl) (by decide) (fun _ hb=>(TabOkP.cons (z1g7 hb (z7w N self hself)) TabOkP.nil)) (fun x y h=>by rw[z1a4];exact h)
def zw6:Code:=(Tryd.f50.body).getD .skip
def L_69:List (List Nat×List Nat):=[([0],[0,2]),([0,1],[3,0,2]),([0,1,1],[15,0,2,3]),([0,0,1,1,1],[36,0,2,15,3]),([1,0,1,1,1],[2,0]),([0,1,1,0,1,1,1],[40,0,2,15,3]),([1,1,1,0,1,1,1],[2,0]),([0,1,1,1,1,0,1,1,1],[51,0,2,15,3]),([1,1,1,1,1,0,1,1,1],[2,0]),([0,1,1,1,1,1,1,0,1,1,1],[56,0,2,3]),([1,1,1,1,1,1,1,0,1,1,1],[2,0]),([0,0,1,1,1,1,1,1,1,1,0,1,1,1],[18,0,3,2]),([1,0,1,1,1,1,1,1,1,1,0,1,1,1],[0,3,2]),([0,1,0,1,1,1,1,1,1,1,1,0,1,1,1],[0,3,2]),([0,1,1,1,1,1,1,1,1,1,0,1,1,1],[3,2,0]),([0,1,1,1,1,1,1,1,1,1,1,0,1,1,1],[2,0]),([1,1,1,1,1,1,1,1,1,1,1,0,1,1,1],[2,0]),([0,0,1,1,1,1,1,1,1,0,1,1,1],[4,2,0]),([0,1,0,1,1,1,1,1,1,1,0,1,1,1],[2,0]),([1,1,0,1,1,1,1,1,1,1,0,1,1,1],[2,0]),([0,0,1,1,1,1,1,0,1,1,1],[2,0]),([1,0,1,1,1,1,1,0,1,1,1],[2,0]),([0,0,1,1,1,0,1,1,1],[2,0]),([0,1,0,1,1,1,0,1,1,1],[2,0]),([1,1,0,1,1,1,0,1,1,1],[2,0]),(z1d1,[2,0]),(z1d0,[2,0]),([1,1,1],[2,0])]
def E_69 (N:Nat)(self:z7):Env:=z25 tys glob [(31,z2t N),(37,z2o N),(56,z6s N (zf N)),(57,zf6 N),(58,z4z N),(59,z34 N)] [] [] [0] false [] []
theorem z1o5 (N:Nat)(self:z7):EnvOk Tryd.prog (E_69 N self):=zg mixed zz (FnsOk.cons (z40 N) (FnsOk.cons (z3r N) (FnsOk.cons (zao N (zf N) (z2s N)) (FnsOk.cons (zlo N) (FnsOk.cons (z9i N) (FnsOk.cons (z4h N) (FnsOk.nil))))))) (ItsOk.nil)
def z45 (N:Nat)(self:z7):PnT:=pnT [(56,34,z7v N self),(58,34,z6g N),(59,34,z4d N),(22,34,zm N),(21,34,zgr SQ0 (fun x=>self x.1) (fun z=>⟨TT0,z⟩))]
theorem z8n (N:Nat)(self:z7)(hself:ContractP Tryd.prog glob 21 34 (zgr SQ0 (fun x=>self x.1) (fun z=>⟨TT0,z⟩))):PnOk Tryd.prog glob (z45 N self):=PnOk.cons (zdr N self hself) (PnOk.cons (zbr N) (PnOk.cons (z7x N) (PnOk.cons (zy N) (PnOk.cons (hself) (PnOk.nil)))))
def z5d (N:Nat)(self:z7)(p:DT3)(x2:DT2)(b:Int)(k0:(Int×(Int×Unit))->Option (Int×(Int×Unit)))(k1:Option (Int×(Int×Unit))):Option (Int×(Int×Unit)) :=
 cond (decide ((0:Int)<=(Go.Lib.indexByte ([(92:UInt8),(46:UInt8),(91:UInt8),(93:UInt8),(40:UInt8),(41:UInt8),(123:UInt8),(125:UInt8),(124:UInt8),(42:UInt8),(43:UInt8),(63:UInt8)]:List UInt8) (Nat.toUInt8 (Int.toNat b)))))
 (k0 ((2:Int),(p.2.1,())))
 (k1)
def z1ls (N:Nat)(self:z7)(x:z1d z18b)(K:ExP->List A->Option (Int×(Int×Unit))):Option (Int×(Int×Unit)) :=
 z5d N self x.1 x.2.1 x.2.2.1 (fun a0=>(K (.pan 34) (mkS [(0,.v TT0)] 0 (a0,())))) (K .normal (mkS z18b 61 (x.1,x.2.1,x.2.2.1,())))
def z1ja (N:Nat)(self:z7):HdP (Int×(Int×Unit)):=fun st K=>(unS z18b 61 (restr [3,0,2] 0 st)).bind fun x=>z1ls N self x K
def t1_69 (N:Nat)(self:z7):zbn (Int×(Int×Unit)):=[]
theorem z1g6 {N:Nat}{self:z7}{c:Ctx}(hb:Base Tryd.prog (E_69 N self) c)(hP:PnOk Tryd.prog glob (z45 N self)):z24 Tryd.prog c (zd zw6 z1dv) (z1ja N self) :=
 z27 (s:=z18b) (m:=61) (g:=z1ls N self) [3,0,2] (z1o hb hP N (t1_69 N self) L_69 zw6 TabOkP.nil z1dv _ rfl) (fun x K=>by kernel_rfl)
def z3s (N:Nat)(self:z7)(p:DT3):Option (Int×(Int×Unit)) :=
 cond (inR p.2.1 (List.length p.1))
 (cond ((((UInt8.toNat (List.getD p.1 (Int.toNat p.2.1) (0:UInt8))):Nat):Int) == (40:Int))
 (orP ((z3j N self p)) (fun z=>some z)
 ((z3y N (zf N) p).bind fun y =>
 none))
 (cond ((((UInt8.toNat (List.getD p.1 (Int.toNat p.2.1) (0:UInt8))):Nat):Int) == (46:Int))
 ((z1z N (0:Int) (255:Int)).bind fun y1 =>
 none)
 (cond ((((UInt8.toNat (List.getD p.1 (Int.toNat p.2.1) (0:UInt8))):Nat):Int) == (91:Int))
 (orP ((z2j N p)) (fun z1=>some z1)
 ((z2z N p).bind fun y2 =>
 none))
 (cond ((((UInt8.toNat (List.getD p.1 (Int.toNat p.2.1) (0:UInt8))):Nat):Int) == (92:Int))
 (orP ((z2b N p)) (fun z2=>some z2)
 ((z26 N p).bind fun y3 =>
 none))
 (z5d N self p ((0:Int),(([(0:Int),(0:Int),(0:Int),(0:Int)]:List Int),(([]:List Tree),((0:Int),((0:Int),()))))) (((UInt8.toNat (List.getD p.1 (Int.toNat p.2.1) (0:UInt8))):Nat):Int)
 (fun p1=>some p1)
 ((z1z N (((UInt8.toNat (List.getD p.1 (Int.toNat p.2.1) (0:UInt8))):Nat):Int) (((UInt8.toNat (List.getD p.1 (Int.toNat p.2.1) (0:UInt8))):Nat):Int)).bind fun y4 =>
 none))))))
 (none)
def t_69 (N:Nat)(self:z7):zbn (Int×(Int×Unit)):=[(z1dv,z1ja N self)]
theorem z1a3 (N:Nat)(self:z7)(x:z1d SQ0):zgs (E_69 N self) (z45 N self) N (t_69 N self) L_69 Tryd.f50 34 TT0 (mkS SQ0 0 x) (fun z=>some z)=z3s N self x.1:=by kernel_rfl
def z8m (N:Nat)(self:z7):List A->PnRes:=zgr SQ0 (fun x=>z3s N self x.1) (fun z=>⟨TT0,z⟩)
theorem zeb (N:Nat)(self:z7)(hself:ContractP Tryd.prog glob 21 34 (zgr SQ0 (fun x=>self x.1) (fun z=>⟨TT0,z⟩))):ContractP Tryd.prog glob 50 34 (z8m N self) :=
 ContractP.of (E:=E_69 N self) (Pn:=z45 N self) (H:=t_69 N self) (L:=L_69) (N:=N) (body:=zw6) (t:=TT0) (z1o5 N self) (z8n N self hself) Tryd.func50 (by kernel_rfl) (by decide) (fun _ hb=>(TabOkP.cons (z1g6 hb (z8n N self hself)) TabOkP.nil)) (fun x y h=>by rw[z1a3];exact h)
def zw5:Code:=(Tryd.f41.body).getD .skip
def L_70:List (List Nat×List Nat):=[([0],[0,2]),([0,1],[0,3,2]),([0,0,1,1],[16,3,2,0]),([1,0,1,1],[3,0,2]),([0,0,1,0,1,1],[2,0]),([1,0,1,0,1,1],[2,0]),([0,1,1,1],[0,4,2,3]),([0,0,1,1,1,1],[29,4,0,2,3]),([0,0,0,0,0,0,0,0,0,0,0,0,0,0,1,0,1,1,1,1],[30,4,0,2,29,3]),([1,0,0,0,0,0,0,0,0,0,0,0,0,0,1,0,1,1,1,1],[29,0,4,2,3]),([0,1,0,0,0,0,0,0,0,0,0,0,0,0,0,1,0,1,1,1,1],[4,0,2]),([0,0,1,0,0,0,0,0,0,0,0,0,0,0,0,1,0,1,1,1,1],[32,0,4,2,29,3]),([1,0,1,0,0,0,0,0,0,0,0,0,0,0,0,1,0,1,1,1,1],[29,0,4,2,3]),([0,1,0,1,0,0,0,0,0,0,0,0,0,0,0,0,1,0,1,1,1,1],[0,4,2]),([0,0,1,1,0,0,0,0,0,0,0,0,0,0,0,0,1,0,1,1,1,1],[34,0,4,2,29,3]),([1,0,1,1,0,0,0,0,0,0,0,0,0,0,0,0,1,0,1,1,1,1],[29,0,4,2,3]),([0,1,0,1,1,0,0,0,0,0,0,0,0,0,0,0,0,1,0,1,1,1,1],[0,4,2]),([0,1,1,1,0,0,0,0,0,0,0,0,0,0,0,0,1,0,1,1,1,1],[36,0,4,2,3]),([1,1,1,1,0,0,0,0,0,0,0,0,0,0,0,0,1,0,1,1,1,1],[3,2,0]),([0,1,1,1,1,0,0,0,0,0,0,0,0,0,0,0,0,1,0,1,1,1,1],[0,4,2]),([1,0,0,0,0,0,0,0,0,0,0,0,1,0,1,1,1,1],[3,2,0]),([0,0,0,0,0,0,0,0,0,0,1,0,1,1,1,1],[4,0,2]),([1,0,0,0,0,0,0,0,0,0,1,0,1,1,1,1],[0,4,2]),(z18h,[0,4,2]),([0,1,0,0,0,0,0,0,0,1,0,1,1,1,1],[4,2,0]),([1,1,0,0,0,0,0,0,0,1,0,1,1,1,1],[4,2,0]),([0,0,0,0,0,0,1,0,1,1,1,1],[0,4,2]),([0,0,1,0,0,0,0,0,1,0,1,1,1,1],[4,2,0]),([1,0,1,0,0,0,0,0,1,0,1,1,1,1],[4,2,0]),([1,1,0,0,0,0,0,1,0,1,1,1,1],[4,2,0]),([0,0,0,0,1,0,1,1,1,1],[0,4,2]),([0,0,1,0,0,0,1,0,1,1,1,1],[0,4,2]),([1,0,1,0,0,0,1,0,1,1,1,1],[4,2,0]),([1,1,0,0,0,1,0,1,1,1,1],[4,2,0]),(PQ86,[3,2,0]),([0,0,1,0,1,0,1,1,1,1],[2,0]),([1,0,1,0,1,0,1,1,1,1],[2,0]),([1,1,0,1,0,1,1,1,1],[4,2,0]),([1,0,1,1,1,1],[4,2,0]),([0,1,1,1,1,1],[2,0]),([1,1,1,1,1,1],[2,0])]
def E_70 (N:Nat)(self:z7):Env:=z25 tys glob [(50,z7d N (zf N)),(51,z65 N)] [] [] [0] false [] []
theorem z1o4 (N:Nat)(self:z7):EnvOk Tryd.prog (E_70 N self):=zg mixed zz (FnsOk.cons (zbg N (zf N) (z2s N)) (FnsOk.cons (za2 N) (FnsOk.nil))) (ItsOk.nil)
def z3u (N:Nat)(self:z7):PnT:=pnT [(50,34,z8m N self),(51,34,z7c N),(21,34,zgr SQ0 (fun x=>self x.1) (fun z=>⟨TT0,z⟩))]
theorem z7u (N:Nat)(self:z7)(hself:ContractP Tryd.prog glob 21 34 (zgr SQ0 (fun x=>self x.1) (fun z=>⟨TT0,z⟩))):PnOk Tryd.prog glob (z3u N self):=PnOk.cons (zeb N self hself) (PnOk.cons (zd7 N) (PnOk.cons (hself) (PnOk.nil)))
def z4w (N:Nat)(self:z7)(p:DT3)(x2:DT2)(kid:DT2)(rep:DT2)(x29:Int)(k0:DT2->Option (Int×(Int×Unit)))(k1:Option (Int×(Int×Unit)))(k2:Option (Int×(Int×Unit)))(k3:Option (Int×(Int×Unit))):Option (Int×(Int×Unit)) :=
 cond (x29 == (43:Int))
 (k0 (rep.1,(rep.2.1,(rep.2.2.1,((1:Int),rep.2.2.2.2)))))
 (cond (x29 == (42:Int))
 (k0 rep)
 (cond (x29 == (63:Int))
 (k1)
 (cond (x29 == (123:Int))
 (k2)
 (k3))))
def z1lr (N:Nat)(self:z7)(x:z1d z1dl)(K:ExP->List A->Option (Int×(Int×Unit))):Option (Int×(Int×Unit)) :=
 z4w N self x.1 x.2.1 x.2.2.1 x.2.2.2.1 x.2.2.2.2.1 (fun a2=>(K .normal (mkS z1dj 65 (x.1,x.2.1,a2,())))) (K (.exit 3) (mkS z1dj 65 (x.1,x.2.1,x.2.2.2.1,()))) (K (.exit 4) (mkS z1dj 65 (x.1,x.2.1,x.2.2.2.1,()))) (K (.exit 5) (mkS [(0,.box (.pair .str TT0)),(1,.box TT1),(0,.box TT1)] 66 (x.1,x.2.1,x.2.2.1,())))
def z1j9 (N:Nat)(self:z7):HdP (Int×(Int×Unit)):=fun st K=>(unS z1dl 40 (restr [29,4,0,2,3] 0 st)).bind fun x=>z1lr N self x K
def t1_70 (N:Nat)(self:z7):zbn (Int×(Int×Unit)):=[]
theorem z1g5 {N:Nat}{self:z7}{c:Ctx}(hb:Base Tryd.prog (E_70 N self) c)(hP:PnOk Tryd.prog glob (z3u N self)):z24 Tryd.prog c (zd zw5 z18h) (z1j9 N self) :=
 z27 (s:=z1dl) (m:=40) (g:=z1lr N self) [29,4,0,2,3] (z1o hb hP N (t1_70 N self) L_70 zw5 TabOkP.nil z18h _ rfl) (fun x K=>by kernel_rfl)
def z2f (N:Nat)(self:z7)(p:DT3):Option (Int×(Int×Unit)) :=
 orP ((z3s N self p)) (fun z=>some z)
 ((z48 N (zf N) p).bind fun y =>
 cond (y.2.1.2.1 == (((List.length y.2.1.1):Nat):Int))
 (none)
 (cond (inR y.2.1.2.1 (List.length y.2.1.1))
 (z4w N self y.2.1 ((0:Int),(([(0:Int),(0:Int),(0:Int),(0:Int)]:List Int),(([]:List Tree),((0:Int),((0:Int),()))))) y.1 ((4:Int),(([(0:Int),(0:Int),(0:Int),(0:Int)]:List Int),((List.map foN ([y.1]:List DT8)),((0:Int),((-(1:Int)),()))))) (((UInt8.toNat (List.getD y.2.1.1 (Int.toNat y.2.1.2.1) (0:UInt8))):Nat):Int)
 (fun rep=>none)
 (none)
 (orP ((z37 N (y.2.1.1,((IntKind.wrap IntKind.i64 (y.2.1.2.1+(1:Int))),y.2.1.2.2)))) (fun z1=>some z1)
 ((z3k N (y.2.1.1,((IntKind.wrap IntKind.i64 (y.2.1.2.1+(1:Int))),y.2.1.2.2))).bind fun y1 =>
 none))
 (none))
 (none)))
def t_70 (N:Nat)(self:z7):zbn (Int×(Int×Unit)):=[(z18h,z1j9 N self)]
theorem z1a2 (N:Nat)(self:z7)(x:z1d SQ0):zgs (E_70 N self) (z3u N self) N (t_70 N self) L_70 Tryd.f41 34 TT0 (mkS SQ0 0 x) (fun z=>some z)=z2f N self x.1:=by kernel_rfl
def z7t (N:Nat)(self:z7):List A->PnRes:=zgr SQ0 (fun x=>z2f N self x.1) (fun z=>⟨TT0,z⟩)
theorem zdq (N:Nat)(self:z7)(hself:ContractP Tryd.prog glob 21 34 (zgr SQ0 (fun x=>self x.1) (fun z=>⟨TT0,z⟩))):ContractP Tryd.prog glob 41 34 (z7t N self) :=
 ContractP.of (E:=E_70 N self) (Pn:=z3u N self) (H:=t_70 N self) (L:=L_70) (N:=N) (body:=zw5) (t:=TT0) (z1o4 N self) (z7u N self hself) Tryd.func41 (by kernel_rfl) (by decide) (fun _ hb=>(TabOkP.cons (z1g5 hb (z7u N self hself)) TabOkP.nil)) (fun x y h=>by rw[z1a2];exact h)
def zj4:Code:=(Tryd.f28.body).getD .skip
def z1nt:List (List Nat×List Nat):=[([0],[0,2]),([0,1],[0,3,2]),([0,0,1,1],[0,3,2]),([0,0,0,0,0,1,1],[37,3,0,2]),([1,0,0,0,0,1,1],[3,0,2]),([1,1,0,0,0,0,1,1],[3,2,0]),([0,1,0,0,0,1,1],[0,3,2]),([1,0,0,0,1,1],[0,3,2]),([0,1,1],[3,2,0]),([0,1,1,1],[2,0]),([1,1,1,1],[2,0])]
def z1dz (N:Nat)(self:z7):Env:=z25 tys glob [(30,z8o N),(41,z6r N (zf N))] [(3,TT1)] [] [0] false [] []
theorem z1o3 (N:Nat)(self:z7):EnvOk Tryd.prog (z1dz N self):=zg mixed zz (FnsOk.cons (zbs N) (FnsOk.cons (zan N (zf N) (z2s N)) (FnsOk.nil))) (ItsOk.nil)
def z2g (N:Nat)(self:z7):PnT:=pnT [(41,34,z7t N self),(21,34,zgr SQ0 (fun x=>self x.1) (fun z=>⟨TT0,z⟩))]
theorem z9g (N:Nat)(self:z7)(hself:ContractP Tryd.prog glob 21 34 (zgr SQ0 (fun x=>self x.1) (fun z=>⟨TT0,z⟩))):PnOk Tryd.prog glob (z2g N self):=PnOk.cons (zdq N self hself) (PnOk.cons (hself) (PnOk.nil))
def z63 (N:Nat)(self:z7)(p:DT3)(x2:DT2)(parts:(List DT2))(k0:Option (Int×(Int×Unit)))(k1:Option (Int×(Int×Unit))):Option (Int×(Int×Unit)) :=
 cond (decide (p.2.1<(((List.length p.1):Nat):Int)))
 (cond (inR p.2.1 (List.length p.1))
 (cond ((((UInt8.toNat (List.getD p.1 (Int.toNat p.2.1) (0:UInt8))):Nat):Int) != (124:Int))
 (cond (inR p.2.1 (List.length p.1))
 (cond ((((UInt8.toNat (List.getD p.1 (Int.toNat p.2.1) (0:UInt8))):Nat):Int) != (41:Int))
 (k0)
 (k1))
 (none))
 (k1))
 (none))
 (k1)
def z1kt (N:Nat)(self:z7)(x:z1d SQ3)(K:ExP->List A->Option (Int×(Int×Unit))):Option (Int×(Int×Unit)) :=
 z63 N self x.1 x.2.1 x.2.2.1 (K .normal (mkS SQ3 41 (x.1,x.2.1,x.2.2.1,()))) (K (.exit 0) (mkS SQ3 41 (x.1,x.2.1,x.2.2.1,())))
def z1ib (N:Nat)(self:z7):HdP (Int×(Int×Unit)):=fun st K=>(unS SQ3 41 (restr [0,3,2] 0 st)).bind fun x=>z1kt N self x K
def t3_71 (N:Nat)(self:z7):zbn (Int×(Int×Unit)):=[]
theorem z1f7 {N:Nat}{self:z7}{c:Ctx}(hb:Base Tryd.prog (z1dz N self) c)(hP:PnOk Tryd.prog glob (z2g N self)):z24 Tryd.prog c (zd zj4 [0,0,0,0,1,1]) (z1ib N self) :=
 z27 (s:=SQ3) (m:=41) (g:=z1kt N self) [0,3,2] (z1o hb hP N (t3_71 N self) z1nt zj4 TabOkP.nil [0,0,0,0,1,1] _ rfl) (fun x K=>by kernel_rfl)
def z35 (N:Nat)(self:z7)(x2:DT2)(p:DT3)(parts:(List DT2))(rec:DT3->(List DT2)->Option (Int×(Int×Unit)))(k0:(Int×(Int×Unit))->Option (Int×(Int×Unit)))(k1:DT3->(List DT2)->Option (Int×(Int×Unit))):Option (Int×(Int×Unit)) :=
 z63 N self p x2 parts
 (orP ((z2f N self p)) (fun z=>k0 z)
 ((z2d N (zf N) p).bind fun y =>
 cond (decide ((((List.length parts)+1)*80)<=70368744177664))
 (rec y.2.1 (parts++([y.1]:List DT8)))
 (none)))
 (k1 p parts)
def z9r (N:Nat)(self:z7)(p:DT3)(x2:DT2)(parts:(List DT2))(k0:(Int×(Int×Unit))->Option (Int×(Int×Unit)))(k1:DT3->(List DT2)->Option (Int×(Int×Unit))):Option (Int×(Int×Unit)) :=
 iter (fun (v:(DT3×(List DT2))) r=>z35 N self x2 v.1 v.2 (fun p parts=>(r (p,parts))) k0 k1) N (p,parts)
def z1l4 (N:Nat)(self:z7)(i:DT2)(v:(DT3×(List DT2)))(r:(DT3×(List DT2))->Option (Int×(Int×Unit)))(K:ExP->List A->Option (Int×(Int×Unit))):Option (Int×(Int×Unit)) :=
 z35 N self i v.1 v.2 (fun p parts=>(r (p,parts))) (fun a0=>(K (.pan 34) (mkS [(0,.v TT0)] 0 (a0,())))) (fun a0 a2=>(K (.exit 0) (mkS SQ3 41 (a0,i,a2,()))))
def z1im (N:Nat)(self:z7):HdP (Int×(Int×Unit)):=fun st K=>(unS SQ3 41 (restr [0,3,2] 0 st)).bind fun x=>iter (fun v r=>z1l4 N self ((fun x=>x.2.1) x) v r K) N ((fun x=>(x.1,x.2.2.1)) x)
def t2_71 (N:Nat)(self:z7):zbn (Int×(Int×Unit)):=[([0,0,0,0,1,1],z1ib N self)]
theorem z1fi {N:Nat}{self:z7}{c:Ctx}(hb:Base Tryd.prog (z1dz N self) c)(hP:PnOk Tryd.prog glob (z2g N self)):z24 Tryd.prog c (zd zj4 [0,0,1,1]) (z1im N self) :=
 zml (s:=SQ3) (m:=41) (z1l4 N self) [0,3,2] N (fun x=>x.2.1) (fun x=>(x.1,x.2.2.1)) (fun i v=>(v.1,i,v.2,())) (fun _=>rfl) (z1o hb hP N (t2_71 N self) z1nt zj4 (TabOkP.cons (z1f7 hb hP) TabOkP.nil) [0,0,0,1,1] _ rfl) (fun i v r K=>by kernel_rfl)
def z64 (N:Nat)(self:z7)(p:DT3)(x2:DT2)(parts:(List DT2))(k0:(Int×(Int×Unit))->Option (Int×(Int×Unit)))(k1:DT3->(List DT2)->Option (Int×(Int×Unit))):Option (Int×(Int×Unit)) :=
 z9r N self p x2 parts
 (fun p1=>k0 p1)
 (fun p2 zjn=>k1 p2 zjn)
def z1lq (N:Nat)(self:z7)(x:z1d SQ3)(K:ExP->List A->Option (Int×(Int×Unit))):Option (Int×(Int×Unit)) :=
 z64 N self x.1 x.2.1 x.2.2.1 (fun a0=>(K (.pan 34) (mkS [(0,.v TT0)] 0 (a0,())))) (fun a0 a2=>(K .normal (mkS SQ3 41 (a0,x.2.1,a2,()))))
def z1j8 (N:Nat)(self:z7):HdP (Int×(Int×Unit)):=fun st K=>(unS SQ3 41 (restr [0,3,2] 0 st)).bind fun x=>z1lq N self x K
def t1_71 (N:Nat)(self:z7):zbn (Int×(Int×Unit)):=[([0,0,1,1],z1im N self)]
theorem z1g4 {N:Nat}{self:z7}{c:Ctx}(hb:Base Tryd.prog (z1dz N self) c)(hP:PnOk Tryd.prog glob (z2g N self)):z24 Tryd.prog c (zd zj4 [0,1,1]) (z1j8 N self) :=
 z27 (s:=SQ3) (m:=41) (g:=z1lq N self) [0,3,2] (z1o hb hP N (t1_71 N self) z1nt zj4 (TabOkP.cons (z1fi hb hP) TabOkP.nil) [0,1,1] _ rfl) (fun x K=>by kernel_rfl)
def z3a (N:Nat)(self:z7)(p:DT3):Option (Int×(Int×Unit)) :=
 z64 N self p ((0:Int),(([(0:Int),(0:Int),(0:Int),(0:Int)]:List Int),(([]:List Tree),((0:Int),((0:Int),()))))) ([]:List DT8)
 (fun p1=>some p1)
 (fun p2 parts=>(z7m N (2:Int) (List.map foN parts)).bind fun y =>
 none)
def t_71 (N:Nat)(self:z7):zbn (Int×(Int×Unit)):=[([0,1,1],z1j8 N self)]
theorem z1a1 (N:Nat)(self:z7)(x:z1d SQ0):zgs (z1dz N self) (z2g N self) N (t_71 N self) z1nt Tryd.f28 34 TT0 (mkS SQ0 0 x) (fun z=>some z)=z3a N self x.1:=by kernel_rfl
def z9f (N:Nat)(self:z7):List A->PnRes:=zgr SQ0 (fun x=>z3a N self x.1) (fun z=>⟨TT0,z⟩)
theorem zf5 (N:Nat)(self:z7)(hself:ContractP Tryd.prog glob 21 34 (zgr SQ0 (fun x=>self x.1) (fun z=>⟨TT0,z⟩))):ContractP Tryd.prog glob 28 34 (z9f N self) :=
 ContractP.of (E:=z1dz N self) (Pn:=z2g N self) (H:=t_71 N self) (L:=z1nt) (N:=N) (body:=zj4) (t:=TT0) (z1o3 N self) (z9g N self hself) Tryd.func28 (by kernel_rfl) (by decide) (fun _ hb=>(TabOkP.cons (z1g4 hb (z9g N self hself)) TabOkP.nil)) (fun x y h=>by rw[z1a1];exact h)
def zs1:Code:=(Tryd.f21.body).getD .skip
def L_72:List (List Nat×List Nat):=[([0],[0,2]),([0,1],[0,3,2]),([0,0,1,1],[0,3,2]),([0,0,0,0,0,1,1],[8,3,0,2]),([1,0,0,0,0,1,1],[3,0,2]),([1,1,0,0,0,0,1,1],[3,2,0]),([0,1,0,0,0,1,1],[0,3,2]),([1,0,0,0,1,1],[0,3,2]),([0,1,1],[3,2,0]),([0,1,1,1],[2,0]),([1,1,1,1],[2,0])]
def E_72 (N:Nat)(self:DT3->Option (Int×(Int×Unit))):Env:=z25 tys glob [(28,z8d N (zf N)),(29,z1i N),(30,z8o N)] [(3,TT1)] [] [0] false [] []
theorem z1o2 (N:Nat)(self:DT3->Option (Int×(Int×Unit))):EnvOk Tryd.prog (E_72 N self):=zg mixed zz (FnsOk.cons (zcm N (zf N) (z2s N)) (FnsOk.cons (z20 N) (FnsOk.cons (zbs N) (FnsOk.nil)))) (ItsOk.nil)
def z4j (N:Nat)(self:DT3->Option (Int×(Int×Unit))):PnT:=pnT [(28,34,z9f N self),(21,34,zgr SQ0 (fun x=>self x.1) (fun z=>⟨TT0,z⟩))]
theorem z9j (N:Nat)(self:DT3->Option (Int×(Int×Unit)))(hself:ContractP Tryd.prog glob 21 34 (zgr SQ0 (fun x=>self x.1) (fun z=>⟨TT0,z⟩))):PnOk Tryd.prog glob (z4j N self):=PnOk.cons (zf5 N self hself) (PnOk.cons (hself) (PnOk.nil))
def z46 (N:Nat)(self:DT3->Option (Int×(Int×Unit)))(x2:DT2)(p:DT3)(parts:(List DT2))(rec:DT3->(List DT2)->Option (Int×(Int×Unit)))(k0:(Int×(Int×Unit))->Option (Int×(Int×Unit)))(k1:DT3->(List DT2)->Option (Int×(Int×Unit))):Option (Int×(Int×Unit)) :=
 (zu N p (124:Int)).bind fun y =>
 cond y.1
 (orP ((z3a N self y.2.1)) (fun z=>k0 z)
 ((z3e N (zf N) y.2.1).bind fun y1 =>
 cond (decide ((((List.length parts)+1)*80)<=70368744177664))
 (rec y1.2.1 (parts++([y1.1]:List DT8)))
 (none)))
 (k1 y.2.1 parts)
def z9s (N:Nat)(self:DT3->Option (Int×(Int×Unit)))(p:DT3)(x2:DT2)(parts:(List DT2))(k0:(Int×(Int×Unit))->Option (Int×(Int×Unit)))(k1:DT3->(List DT2)->Option (Int×(Int×Unit))):Option (Int×(Int×Unit)) :=
 iter (fun (v:(DT3×(List DT2))) r=>z46 N self x2 v.1 v.2 (fun p parts=>(r (p,parts))) k0 k1) N (p,parts)
def z1lp (N:Nat)(self:DT3->Option (Int×(Int×Unit)))(i:DT2)(v:(DT3×(List DT2)))(r:(DT3×(List DT2))->Option (Int×(Int×Unit)))(K:ExP->List A->Option (Int×(Int×Unit))):Option (Int×(Int×Unit)) :=
 z46 N self i v.1 v.2 (fun p parts=>(r (p,parts))) (fun a0=>(K (.pan 34) (mkS [(0,.v TT0)] 0 (a0,())))) (fun a0 a2=>(K (.exit 0) (mkS SQ3 12 (a0,i,a2,()))))
def z1j7 (N:Nat)(self:DT3->Option (Int×(Int×Unit))):HdP (Int×(Int×Unit)):=fun st K=>(unS SQ3 12 (restr [0,3,2] 0 st)).bind fun x=>iter (fun v r=>z1lp N self ((fun x=>x.2.1) x) v r K) N ((fun x=>(x.1,x.2.2.1)) x)
def t1_72 (N:Nat)(self:DT3->Option (Int×(Int×Unit))):zbn (Int×(Int×Unit)):=[]
theorem z1g3 {N:Nat}{self:DT3->Option (Int×(Int×Unit))}{c:Ctx}(hb:Base Tryd.prog (E_72 N self) c)(hP:PnOk Tryd.prog glob (z4j N self)):z24 Tryd.prog c (zd zs1 [0,0,1,1]) (z1j7 N self) :=
 zml (s:=SQ3) (m:=12) (z1lp N self) [0,3,2] N (fun x=>x.2.1) (fun x=>(x.1,x.2.2.1)) (fun i v=>(v.1,i,v.2,())) (fun _=>rfl) (z1o hb hP N (t1_72 N self) L_72 zs1 TabOkP.nil [0,0,0,1,1] _ rfl) (fun i v r K=>by kernel_rfl)
def z4k (N:Nat)(self:DT3->Option (Int×(Int×Unit)))(p:DT3):Option (Int×(Int×Unit)) :=
 orP ((z3a N self p)) (fun z=>some z)
 ((z3e N (zf N) p).bind fun y =>
 z9s N self y.2.1 ((0:Int),(([(0:Int),(0:Int),(0:Int),(0:Int)]:List Int),(([]:List Tree),((0:Int),((0:Int),()))))) ([y.1]:List DT8)
 (fun p1=>some p1)
 (fun p2 parts=>(z7m N (3:Int) (List.map foN parts)).bind fun y1 =>
 none))
def t_72 (N:Nat)(self:DT3->Option (Int×(Int×Unit))):zbn (Int×(Int×Unit)):=[([0,0,1,1],z1j7 N self)]
theorem z1a0 (N:Nat)(self:DT3->Option (Int×(Int×Unit)))(x:z1d SQ0):zgs (E_72 N self) (z4j N self) N (t_72 N self) L_72 Tryd.f21 34 TT0 (mkS SQ0 0 x) (fun z=>some z)=z4k N self x.1:=by kernel_rfl
def zo:Nat->DT3->Option (Int×(Int×Unit))
 | 0=>fun _=>none
 | N+1=>z4k (N+1) (zo N)
def zec (N:Nat):List A->PnRes:=zgr SQ0 (fun x=>zo N x.1) (fun z=>⟨TT0,z⟩)
theorem z67:∀ N:Nat,ContractP Tryd.prog glob 21 34 (zec N)
 | 0=>ContractP.zero Tryd.func21 (body:=zs1) (by kernel_rfl) (by decide) (fun _=>rfl)
 | N+1=>ContractP.of (E:=E_72 (N+1) (zo N)) (Pn:=z4j (N+1) (zo N)) (H:=t_72 (N+1) (zo N)) (L:=L_72) (N:=(N+1)) (body:=zs1) (t:=TT0) (z1o2 (N+1) (zo N)) (z9j (N+1) (zo N) (z67 N)) Tryd.func21 (by kernel_rfl) (by decide) (fun _ hb=>(TabOkP.cons (z1g3 hb (z9j (N+1) (zo N) (z67 N))) TabOkP.nil)) (fun x y h=>by rw[z1a0];exact h)
end
end Go.Proofs.YthgcpalmjcomlaaDoorLg
set_option linter.all false
set_option maxRecDepth 100000
namespace Go.Proofs.YthgcpalmjcomlaaDoorLg
noncomputable section
open Go Go.Lift
def Cl (w:World)(n:Nat)(cs:List Value):Prop:=∀ i v,cs[i]?=some v->w.cell? ⟨n,i,none⟩=some v/\w.frozen? ⟨n,i,none⟩=false
def PsW (w0:World)(S0 S:Hp)(W:World):Prop:=WF w0 (fun _=>False) W/\Lift.Sub S0 S/\Lift.Sub S (hp W)/\∀ k,S k≠none->S0 k≠none\/w0.heap.size<=k
theorem PsW.drew {w0 W:World}{S0 S:Hp}(h:PsW w0 S0 S W):PsW w0 S0 S W.drew:=by
 obtain⟨h1,h2,h3,h4⟩:=h;exact⟨⟨h1.size,h1.same,h1.tape,h1.os,h1.output⟩,h2,h3,h4⟩
theorem PsW.alloc {w0 W:World}{S0 S:Hp}(h:PsW w0 S0 S W)(cs:Array Value)(E:Nat):PsW w0 S0 S (W.alloc (.cells cs E)):=by
 obtain⟨h1,h2,h3,h4⟩:=h;have hh:(W.alloc (.cells cs E)).heap=W.heap.push (.cells cs E (0,0)):=rfl;have hk:∀ k,k<W.heap.size->(W.alloc (.cells cs E)).heap[k]?=W.heap[k]?:=fun k hk=>by
  rw[hh,Array.getElem?_push,if_neg (by omega)]
 refine⟨⟨by rw[hh,Array.size_push];have:=h1.size;omega,fun k h1' h2'=>by rw[hk k (by have:=h1.size;omega)];exact h1.same k h1' h2',h1.tape,h1.os,h1.output⟩,h2,fun k q ho=>?_,h4⟩;have:=h3 k q ho;simp only[hp] at this ⊢;rw[hk k (Array.getElem?_eq_some_iff.1 this).1];exact this
theorem zh2 {W:World}{p i:Nat}{v:Value}{k:Nat}(hk:k≠p):(W.setCell ⟨p,i,none⟩ v).heap[k]?=W.heap[k]?:=by
 unfold World.setCell;split<;>simp[Array.getElem?_modify,Ne.symm hk]
theorem PsW.setCell {w0 W:World}{S0 S:Hp}{p i:Nat}{v:Value}(h:PsW w0 S0 S W)(hp':w0.heap.size<=p)(hS:S p=none):PsW w0 S0 S (W.setCell ⟨p,i,none⟩ v):=by
 obtain⟨h1,h2,h3,h4⟩:=h;have hsz:(W.setCell ⟨p,i,none⟩ v).heap.size=W.heap.size:=by
  unfold World.setCell;split<;>simp
 have ht:(W.setCell ⟨p,i,none⟩ v).tape=W.tape/\(W.setCell ⟨p,i,none⟩ v).os=W.os/\(W.setCell ⟨p,i,none⟩ v).output=W.output:=by
  unfold World.setCell;split
  . exact⟨rfl,rfl,rfl⟩
  . exact⟨rfl,rfl,rfl⟩
 refine⟨⟨by rw[hsz];exact h1.size,fun k h1' h2'=>by rw[zh2 (by omega)];exact h1.same k h1' h2',by rw[ht.1];exact h1.tape,by rw[ht.2.1];exact h1.os,by rw[ht.2.2];exact h1.output⟩,h2,fun k q ho=>?_,h4⟩;have hk:k≠p:=fun e=>by rw[e,hS] at ho;cases ho
 have:=h3 k q ho;simp only[hp] at this ⊢;rw[zh2 hk];exact this
theorem z5t {w:World}{n:Nat}{cs:List Value}(h:Cl w n cs)(i:Nat)(v:Value):Cl (w.setCell ⟨n,i,none⟩ v) n (cs.set i v):=by
 intro j u hj;rw[List.getElem?_set] at hj;by_cases e:i=j
 . subst e;rw[if_pos rfl] at hj;split at hj
   . rename_i hl;cases hj;obtain⟨h1,h2⟩:=h i _ (List.getElem?_eq_getElem hl);constructor<;>simp[go_sem,h1,h2]
   . cases hj
 . rw[if_neg e] at hj;obtain⟨h1,h2⟩:=h j _ hj;have e':j≠i:=fun h=>e h.symm
   constructor<;>simp[go_sem,h1,h2,e,e']
theorem z1s {w:World}{n m:Nat}{cs:List Value}(h:Cl w n cs)(hne:m≠n)(i:Nat)(v:Value):Cl (w.setCell ⟨m,i,none⟩ v) n cs:=by
 intro j u hj;obtain⟨h1,h2⟩:=h j _ hj;have e':n≠m:=fun h=>hne h.symm
 constructor<;>simp[go_sem,h1,h2,hne,e']
theorem zht {w:World}{n:Nat}{c:Value}{cs:List Value}(h:Cl w n (c::cs))(o:Obj):Cl (w.alloc o) n (c::cs):=by
 have hlt:n<w.heap.size:=by
  have h0:=(h 0 c rfl).1;rcases Nat.lt_or_ge n w.heap.size with h1|h1
  . exact h1
  . simp[World.cell?,Array.getElem?_eq_none h1] at h0
 intro i v hi;obtain⟨h1,h2⟩:=h i v hi;exact⟨by rw[World.cell?_alloc_past _ _ _ hlt];exact h1,by rw[World.frozen?_alloc_past _ _ _ hlt];exact h2⟩
theorem zu3 {w:World}{n:Nat}{c:Value}{cs:List Value}(h:Cl w n (c::cs)):n<w.heap.size:=by
 have h0:=(h 0 c rfl).1;rcases Nat.lt_or_ge n w.heap.size with h1|h1
 . exact h1
 . simp[World.cell?,Array.getElem?_eq_none h1] at h0
theorem ps_idle {w:World}{n0 n1:Nat} :
 CallsD Go.Proofs.Tryd.prog 20 #[.pointer (some ⟨n0,0,none⟩),.pointer (some ⟨n1,0,none⟩)] .returning w fun e u w'=>(∃ v,e=.returned v)/\u=.returning/\w'=w.alloc (Obj.cells #[Value.int IntKind.i64 0,Value.int IntKind.i64 0] 34):=by
 refine callsD_of_wpS Go.Proofs.Tryd.func20 rfl fun c₀ cs hu=>?_
 have ha:∀ W:World,(Instr.typeAssert .nilIface 20 34 true).run Go.Proofs.Tryd.prog W=.ok (.tuple #[.agg #[.int .i64 0,.int .i64 0],.bool false]) W:=fun W=>by kernel_rfl
 apply wpS_seq;apply wpS_region;simp only[Go.Proofs.Tryd.ntmps20,List.size_toArray,List.length_cons,List.length_nil,Nat.reduceAdd,Nat.reduceSub,Array.replicate_succ,
  Array.replicate_zero,List.push_toArray,List.append_toArray,List.nil_append,List.cons_append]
 simp[wpOpsS,go_sem,recoverD,hu,Exit.thenS,ha,List.range_succ];refine wpS_of_wp ?_
 go_wp2
 cases c₀
 simp_all [bodyPostS,results,Go.Proofs.Tryd.results20]
set_option maxHeartbeats 16000000 in
theorem zsz {w:World}{n0 n1:Nat}{e a:Int}{y0 y1:Value}{c0 c1 c2 c3 c4 c5 c6 c7:Value}{R:World->Prop}(h0:Cl (w.alloc (Obj.cells #[Value.int IntKind.i64 e,Value.int IntKind.i64 a] 34)) n0 [c0,c1,c2,c3,c4,c5,c6,c7])(h1:Cl (w.alloc (Obj.cells #[Value.int IntKind.i64 e,Value.int IntKind.i64 a] 34)) n1 [y0,y1])(hne:n0≠n1)(hn2:n0≠w.heap.size)(hn3:n1≠w.heap.size)
 (hR:∀ w',Cl w' n0 [.int .i64 0,.int .u64 0,.int .u64 0,.int .u64 0,.int .u64 0,.slice none 0 0,.int .i64 0,.int .i64 0]->Cl w' n1 [.int .i64 e,.int .i64 a] →
  (∀ (w0:World) (S0 S:Hp),PsW w0 S0 S w->w0.heap.size<=n0->w0.heap.size<=n1->S n0=none->S n1=none->PsW w0 S0 S w')->R w') :
 CallsD Go.Proofs.Tryd.prog 20 #[.pointer (some ⟨n0,0,none⟩),.pointer (some ⟨n1,0,none⟩)] (.panicking [{ v:=.iface 34 (.agg #[.int .i64 e,.int .i64 a]),recovered:=false }]) w fun r u w'=>(∃ v,r=.returned v)/\u=.panicking [{ v:=.iface 34 (.agg #[.int .i64 e,.int .i64 a]),recovered:=true }]/\R w':=by
 refine callsD_of_wpS Go.Proofs.Tryd.func20 rfl fun c₀ cs hu=>?_
 have ha:∀ W:World,(Instr.typeAssert (.iface 34 (.agg #[.int .i64 e,.int .i64 a])) 20 34 true).run Go.Proofs.Tryd.prog W=.ok (.tuple #[.agg #[.int .i64 e,.int .i64 a],.bool true]) W:=fun W=>by kernel_rfl
 have c00:(w.alloc (Obj.cells #[Value.int IntKind.i64 e,Value.int IntKind.i64 a] 34)).cell? ⟨n0,0,none⟩=some (c0):=(h0 0 _ rfl).1;have z00:(w.alloc (Obj.cells #[Value.int IntKind.i64 e,Value.int IntKind.i64 a] 34)).frozen? ⟨n0,0,none⟩=false:=(h0 0 _ rfl).2;have c01:(w.alloc (Obj.cells #[Value.int IntKind.i64 e,Value.int IntKind.i64 a] 34)).cell? ⟨n0,1,none⟩=some (c1):=(h0 1 _ rfl).1;have z01:(w.alloc (Obj.cells #[Value.int IntKind.i64 e,Value.int IntKind.i64 a] 34)).frozen? ⟨n0,1,none⟩=false:=(h0 1 _ rfl).2;have c02:(w.alloc (Obj.cells #[Value.int IntKind.i64 e,Value.int IntKind.i64 a] 34)).cell? ⟨n0,2,none⟩=some (c2):=(h0 2 _ rfl).1;have z02:(w.alloc (Obj.cells #[Value.int IntKind.i64 e,Value.int IntKind.i64 a] 34)).frozen? ⟨n0,2,none⟩=false:=(h0 2 _ rfl).2;have c03:(w.alloc (Obj.cells #[Value.int IntKind.i64 e,Value.int IntKind.i64 a] 34)).cell? ⟨n0,3,none⟩=some (c3):=(h0 3 _ rfl).1;have z03:(w.alloc (Obj.cells #[Value.int IntKind.i64 e,Value.int IntKind.i64 a] 34)).frozen? ⟨n0,3,none⟩=false:=(h0 3 _ rfl).2;have c04:(w.alloc (Obj.cells #[Value.int IntKind.i64 e,Value.int IntKind.i64 a] 34)).cell? ⟨n0,4,none⟩=some (c4):=(h0 4 _ rfl).1;have z04:(w.alloc (Obj.cells #[Value.int IntKind.i64 e,Value.int IntKind.i64 a] 34)).frozen? ⟨n0,4,none⟩=false:=(h0 4 _ rfl).2;have c05:(w.alloc (Obj.cells #[Value.int IntKind.i64 e,Value.int IntKind.i64 a] 34)).cell? ⟨n0,5,none⟩=some (c5):=(h0 5 _ rfl).1;have z05:(w.alloc (Obj.cells #[Value.int IntKind.i64 e,Value.int IntKind.i64 a] 34)).frozen? ⟨n0,5,none⟩=false:=(h0 5 _ rfl).2;have c06:(w.alloc (Obj.cells #[Value.int IntKind.i64 e,Value.int IntKind.i64 a] 34)).cell? ⟨n0,6,none⟩=some (c6):=(h0 6 _ rfl).1;have z06:(w.alloc (Obj.cells #[Value.int IntKind.i64 e,Value.int IntKind.i64 a] 34)).frozen? ⟨n0,6,none⟩=false:=(h0 6 _ rfl).2;have c07:(w.alloc (Obj.cells #[Value.int IntKind.i64 e,Value.int IntKind.i64 a] 34)).cell? ⟨n0,7,none⟩=some (c7):=(h0 7 _ rfl).1;have z07:(w.alloc (Obj.cells #[Value.int IntKind.i64 e,Value.int IntKind.i64 a] 34)).frozen? ⟨n0,7,none⟩=false:=(h0 7 _ rfl).2;have c10:(w.alloc (Obj.cells #[Value.int IntKind.i64 e,Value.int IntKind.i64 a] 34)).cell? ⟨n1,0,none⟩=some (y0):=(h1 0 _ rfl).1;have z10:(w.alloc (Obj.cells #[Value.int IntKind.i64 e,Value.int IntKind.i64 a] 34)).frozen? ⟨n1,0,none⟩=false:=(h1 0 _ rfl).2;have c11:(w.alloc (Obj.cells #[Value.int IntKind.i64 e,Value.int IntKind.i64 a] 34)).cell? ⟨n1,1,none⟩=some (y1):=(h1 1 _ rfl).1;have z11:(w.alloc (Obj.cells #[Value.int IntKind.i64 e,Value.int IntKind.i64 a] 34)).frozen? ⟨n1,1,none⟩=false:=(h1 1 _ rfl).2;apply wpS_seq;apply wpS_region;simp only[Go.Proofs.Tryd.ntmps20,List.size_toArray,List.length_cons,List.length_nil,Nat.reduceAdd,Nat.reduceSub,Array.replicate_succ,
  Array.replicate_zero,List.push_toArray,List.append_toArray,List.nil_append,List.cons_append]
 simp[wpOpsS,go_sem,recoverD,hu,Exit.thenS,ha,List.range_succ];refine wpS_of_wp ?_
 go_wp2
 go_region
 have hfin:R ((((((((((((w.alloc (Obj.cells #[Value.int IntKind.i64 e,Value.int IntKind.i64 a] 34)).setCell { block:=n0,off:=0 } (.int .i64 0)).setCell { block:=n0,off:=1 } (.int .u64 0)).setCell { block:=n0,off:=2 } (.int .u64 0)).setCell { block:=n0,off:=3 } (.int .u64 0)).setCell { block:=n0,off:=4 } (.int .u64 0)).setCell { block:=n0,off:=5 } (.slice none 0 0)).setCell { block:=n0,off:=6 } (.int .i64 0)).setCell { block:=n0,off:=7 } (.int .i64 0)).setCell { block:=n1,off:=0 } (.int .i64 e)).setCell { block:=n1,off:=1 } (.int .i64 a)).drew):=by
  refine hR _ ?_ ?_ ?_
  . intro i v hi;rcases i with _|_|_|_|_|_|_|_|i
    case succ.succ.succ.succ.succ.succ.succ.succ=>simp at hi
    all_goals (simp only[List.getElem?_cons_zero,List.getElem?_cons_succ,Option.some.injEq] at hi;subst hi;constructor<;>simp[go_sem, *])
  . intro i v hi;rcases i with _|_|i
    case succ.succ=>simp at hi
    all_goals (simp only[List.getElem?_cons_zero,List.getElem?_cons_succ,Option.some.injEq] at hi;subst hi;constructor<;>simp[go_sem, *])
  . intro w0 S0 S hw hl0 hl1 hS0 hS1;exact (((((((((((hw.alloc _ _).setCell hl0 hS0).setCell hl0 hS0).setCell hl0 hS0).setCell hl0 hS0).setCell hl0 hS0).setCell hl0 hS0).setCell hl0 hS0).setCell hl0 hS0).setCell hl1 hS1).setCell hl1 hS1).drew
 change bodyPostS Go.Proofs.Tryd.prog Go.Proofs.Tryd.f20 c₀ cs _ _ _ _ _;clear hR h0 h1 c00 z00 c01 z01 c02 z02 c03 z03 c04 z04 c05 z05 c06 z06 c07 z07 c10 z10 c11 z11;cases c₀
 simp_all [bodyPostS,results,Go.Proofs.Tryd.results20]
theorem z19j {w:World}{s:List UInt8}{S:Hp}(hS:Lift.Sub S (hp w))(hlen:(256:Int)<s.length) :
 Calls Go.Proofs.Tryd.prog 8 #[.string ⟨⟨s⟩⟩] w fun r w'=>r=.returned (.tuple #[.agg #[Value.int IntKind.i64 0,Value.int IntKind.u64 0,Value.int IntKind.u64 0,Value.int IntKind.u64 0,Value.int IntKind.u64 0,Value.slice none 0 0,Value.int IntKind.i64 0,Value.int IntKind.i64 0],.agg #[.int .i64 3,.int .i64 256]])/\PsW w S S w':=by
 have h0:PsW w S S w:=⟨WF.refl _ _,Lift.Sub.refl _,hS,fun k hk=>.inl hk⟩
 have hn0:S w.heap.size=none:=by
  cases hx:S w.heap.size with
  | none=>rfl
  | some o=>exact absurd (z7o (hS _ _ hx)) (Nat.lt_irrefl _)
 have hn1:S (w.heap.size+1)=none:=by
  cases hx:S (w.heap.size+1) with
  | none=>rfl
  | some o=>exact absurd (z7o (hS _ _ hx)) (by omega)
 go_enter Go.Proofs.Tryd.func8,Go.Proofs.Tryd.ntmps8
 go_wp2
 simp[bodyPost,results,Go.Proofs.Tryd.results8,go_sem];exact (h0.alloc _ _).alloc _ _
set_option maxHeartbeats 16000000 in
theorem ps_ok {w:World}{s:List UInt8}{S:Hp}{at_:Int}{F:Hp->Value->Prop}(hlen:¬ (256:Int)<s.length)
 (hc:Calls Go.Proofs.Tryd.prog 21 #[.pointer (some ⟨w.heap.size+1+1,0,none⟩)] (((w.alloc (Obj.cells #[Value.int IntKind.i64 0,Value.int IntKind.u64 0,Value.int IntKind.u64 0,Value.int IntKind.u64 0,Value.int IntKind.u64 0,Value.slice none 0 0,Value.int IntKind.i64 0,Value.int IntKind.i64 0] 27)).alloc (Obj.cells #[Value.int IntKind.i64 0,Value.int IntKind.i64 0] 34)).alloc (Obj.cells #[Value.string ⟨⟨s⟩⟩,Value.int IntKind.i64 0,Value.int IntKind.i64 0] 58)) fun r w2=>∃ (k a0 a1 a2 a3 lo hi:Int) (sp:Option Addr) (sn sc:Nat) (S':Hp),r=.returned (.agg #[.int .i64 k,.int .u64 a0,.int .u64 a1,.int .u64 a2,.int .u64 a3,.slice sp sn sc,.int .i64 lo,.int .i64 hi])/\Cl w2 (w.heap.size) [.int .i64 0,.int .u64 0,.int .u64 0,.int .u64 0,.int .u64 0,.slice none 0 0,.int .i64 0,.int .i64 0]/\Cl w2 (w.heap.size+1) [.int .i64 0,.int .i64 0]/\w2.cell? ⟨w.heap.size+1+1,1,none⟩=some (.int .i64 at_)/\S' (w.heap.size)=none/\S' (w.heap.size+1)=none/\PsW w S S' w2/\F S' (.agg #[.int .i64 k,.int .u64 a0,.int .u64 a1,.int .u64 a2,.int .u64 a3,.slice sp sn sc,.int .i64 lo,.int .i64 hi]))
 (hat:¬ at_<s.length) :
 Calls Go.Proofs.Tryd.prog 8 #[.string ⟨⟨s⟩⟩] w fun r w'=>∃ v S',r=.returned (.tuple #[v,.agg #[.int .i64 0,.int .i64 0]])/\F S' v/\PsW w S S' w':=by
 have hmf:∀ (fn:Fn) (first cap:Array Value) (w:World),(Instr.makeFunc fn first cap).run Go.Proofs.Tryd.prog w=.ok (.func fn first cap) w:=fun _ _ _ _=>rfl
 have p1:w.heap.size+1+1≠w.heap.size:=by omega
 have p2:w.heap.size+1≠w.heap.size:=by omega
 go_enter_defers Go.Proofs.Tryd.func8,Go.Proofs.Tryd.ntmps8
 go_wp2_with (first
  | (go_at_call 21;refine hc.mono ?_;rintro r w2 ⟨k,a0,a1,a2,a3,lo,hi,sp,sn,sc,S',rfl,hC0,hC1,hat2,hs0,hs1,hP,hFF⟩;have c00:=(hC0 0 _ rfl).1;have z00:=(hC0 0 _ rfl).2;have c01:=(hC0 1 _ rfl).1;have z01:=(hC0 1 _ rfl).2;have c02:=(hC0 2 _ rfl).1;have z02:=(hC0 2 _ rfl).2;have c03:=(hC0 3 _ rfl).1;have z03:=(hC0 3 _ rfl).2;have c04:=(hC0 4 _ rfl).1;have z04:=(hC0 4 _ rfl).2;have c05:=(hC0 5 _ rfl).1;have z05:=(hC0 5 _ rfl).2;have c06:=(hC0 6 _ rfl).1;have z06:=(hC0 6 _ rfl).2;have c07:=(hC0 7 _ rfl).1;have z07:=(hC0 7 _ rfl).2;have c10:=(hC1 0 _ rfl).1;have z10:=(hC1 0 _ rfl).2;have c11:=(hC1 1 _ rfl).1;have z11:=(hC1 1 _ rfl).2;have hl0:w.heap.size<w2.heap.size:=zu3 hC0;have hl1:w.heap.size+1<w2.heap.size:=zu3 hC1;have H0:=Go.Lib.hid hC0;have H1:=Go.Lib.hid hC1;have HP:=Go.Lib.hid hP;have HF:=Go.Lib.hid hFF;clear hc hC0 hC1 hP hFF))
 have k0:Cl (((((((((((((((((((w2).setCell { block:=w.heap.size,off:=0 } (Value.int IntKind.i64 k)).setCell { block:=w.heap.size,off:=1 } (Value.int IntKind.u64 a0)).setCell { block:=w.heap.size,off:=2 } (Value.int IntKind.u64 a1)).setCell { block:=w.heap.size,off:=3 } (Value.int IntKind.u64 a2)).setCell { block:=w.heap.size,off:=4 } (Value.int IntKind.u64 a3)).setCell { block:=w.heap.size,off:=5 } (Value.slice sp sn sc)).setCell { block:=w.heap.size,off:=6 } (Value.int IntKind.i64 lo)).setCell { block:=w.heap.size,off:=7 } (Value.int IntKind.i64 hi)).setCell { block:=w.heap.size,off:=0 } (Value.int IntKind.i64 k)).setCell { block:=w.heap.size,off:=1 } (Value.int IntKind.u64 a0)).setCell { block:=w.heap.size,off:=2 } (Value.int IntKind.u64 a1)).setCell { block:=w.heap.size,off:=3 } (Value.int IntKind.u64 a2)).setCell { block:=w.heap.size,off:=4 } (Value.int IntKind.u64 a3)).setCell { block:=w.heap.size,off:=5 } (Value.slice sp sn sc)).setCell { block:=w.heap.size,off:=6 } (Value.int IntKind.i64 lo)).setCell { block:=w.heap.size,off:=7 } (Value.int IntKind.i64 hi)).setCell { block:=w.heap.size+1,off:=0 } (Value.int IntKind.i64 0)).setCell { block:=w.heap.size+1,off:=1 } (Value.int IntKind.i64 0)) (w.heap.size) [.int .i64 k,.int .u64 a0,.int .u64 a1,.int .u64 a2,.int .u64 a3,.slice sp sn sc,.int .i64 lo,.int .i64 hi]:=(z1s (z1s (z5t (z5t (z5t (z5t (z5t (z5t (z5t (z5t (z5t (z5t (z5t (z5t (z5t (z5t (z5t (z5t H0.out 0 _) 1 _) 2 _) 3 _) 4 _) 5 _) 6 _) 7 _) 0 _) 1 _) 2 _) 3 _) 4 _) 5 _) 6 _) 7 _) p2 0 _) p2 1 _)
 have k1:Cl (((((((((((((((((((w2).setCell { block:=w.heap.size,off:=0 } (Value.int IntKind.i64 k)).setCell { block:=w.heap.size,off:=1 } (Value.int IntKind.u64 a0)).setCell { block:=w.heap.size,off:=2 } (Value.int IntKind.u64 a1)).setCell { block:=w.heap.size,off:=3 } (Value.int IntKind.u64 a2)).setCell { block:=w.heap.size,off:=4 } (Value.int IntKind.u64 a3)).setCell { block:=w.heap.size,off:=5 } (Value.slice sp sn sc)).setCell { block:=w.heap.size,off:=6 } (Value.int IntKind.i64 lo)).setCell { block:=w.heap.size,off:=7 } (Value.int IntKind.i64 hi)).setCell { block:=w.heap.size,off:=0 } (Value.int IntKind.i64 k)).setCell { block:=w.heap.size,off:=1 } (Value.int IntKind.u64 a0)).setCell { block:=w.heap.size,off:=2 } (Value.int IntKind.u64 a1)).setCell { block:=w.heap.size,off:=3 } (Value.int IntKind.u64 a2)).setCell { block:=w.heap.size,off:=4 } (Value.int IntKind.u64 a3)).setCell { block:=w.heap.size,off:=5 } (Value.slice sp sn sc)).setCell { block:=w.heap.size,off:=6 } (Value.int IntKind.i64 lo)).setCell { block:=w.heap.size,off:=7 } (Value.int IntKind.i64 hi)).setCell { block:=w.heap.size+1,off:=0 } (Value.int IntKind.i64 0)).setCell { block:=w.heap.size+1,off:=1 } (Value.int IntKind.i64 0)) (w.heap.size+1) [.int .i64 0,.int .i64 0]:=(z5t (z5t (z1s (z1s (z1s (z1s (z1s (z1s (z1s (z1s (z1s (z1s (z1s (z1s (z1s (z1s (z1s (z1s H1.out p2.symm 0 _) p2.symm 1 _) p2.symm 2 _) p2.symm 3 _) p2.symm 4 _) p2.symm 5 _) p2.symm 6 _) p2.symm 7 _) p2.symm 0 _) p2.symm 1 _) p2.symm 2 _) p2.symm 3 _) p2.symm 4 _) p2.symm 5 _) p2.symm 6 _) p2.symm 7 _) 0 _) 1 _)
 have k2:PsW w S S' (((((((((((((((((((w2).setCell { block:=w.heap.size,off:=0 } (Value.int IntKind.i64 k)).setCell { block:=w.heap.size,off:=1 } (Value.int IntKind.u64 a0)).setCell { block:=w.heap.size,off:=2 } (Value.int IntKind.u64 a1)).setCell { block:=w.heap.size,off:=3 } (Value.int IntKind.u64 a2)).setCell { block:=w.heap.size,off:=4 } (Value.int IntKind.u64 a3)).setCell { block:=w.heap.size,off:=5 } (Value.slice sp sn sc)).setCell { block:=w.heap.size,off:=6 } (Value.int IntKind.i64 lo)).setCell { block:=w.heap.size,off:=7 } (Value.int IntKind.i64 hi)).setCell { block:=w.heap.size,off:=0 } (Value.int IntKind.i64 k)).setCell { block:=w.heap.size,off:=1 } (Value.int IntKind.u64 a0)).setCell { block:=w.heap.size,off:=2 } (Value.int IntKind.u64 a1)).setCell { block:=w.heap.size,off:=3 } (Value.int IntKind.u64 a2)).setCell { block:=w.heap.size,off:=4 } (Value.int IntKind.u64 a3)).setCell { block:=w.heap.size,off:=5 } (Value.slice sp sn sc)).setCell { block:=w.heap.size,off:=6 } (Value.int IntKind.i64 lo)).setCell { block:=w.heap.size,off:=7 } (Value.int IntKind.i64 hi)).setCell { block:=w.heap.size+1,off:=0 } (Value.int IntKind.i64 0)).setCell { block:=w.heap.size+1,off:=1 } (Value.int IntKind.i64 0)):=by
  have HQ:=HP.out;have hn0:w.heap.size<=w.heap.size:=Nat.le_refl _;have hn1:w.heap.size<=w.heap.size+1:=by omega
  exact ((((((((((((((((((HQ.setCell hn0 hs0).setCell hn0 hs0).setCell hn0 hs0).setCell hn0 hs0).setCell hn0 hs0).setCell hn0 hs0).setCell hn0 hs0).setCell hn0 hs0).setCell hn0 hs0).setCell hn0 hs0).setCell hn0 hs0).setCell hn0 hs0).setCell hn0 hs0).setCell hn0 hs0).setCell hn0 hs0).setCell hn0 hs0).setCell hn1 hs1).setCell hn1 hs1)
 clear c00 z00 c01 z01 c02 z02 c03 z03 c04 z04 c05 z05 c06 z06 c07 z07 c10 z10 c11 z11;generalize (((((((((((((((((((w2).setCell { block:=w.heap.size,off:=0 } (Value.int IntKind.i64 k)).setCell { block:=w.heap.size,off:=1 } (Value.int IntKind.u64 a0)).setCell { block:=w.heap.size,off:=2 } (Value.int IntKind.u64 a1)).setCell { block:=w.heap.size,off:=3 } (Value.int IntKind.u64 a2)).setCell { block:=w.heap.size,off:=4 } (Value.int IntKind.u64 a3)).setCell { block:=w.heap.size,off:=5 } (Value.slice sp sn sc)).setCell { block:=w.heap.size,off:=6 } (Value.int IntKind.i64 lo)).setCell { block:=w.heap.size,off:=7 } (Value.int IntKind.i64 hi)).setCell { block:=w.heap.size,off:=0 } (Value.int IntKind.i64 k)).setCell { block:=w.heap.size,off:=1 } (Value.int IntKind.u64 a0)).setCell { block:=w.heap.size,off:=2 } (Value.int IntKind.u64 a1)).setCell { block:=w.heap.size,off:=3 } (Value.int IntKind.u64 a2)).setCell { block:=w.heap.size,off:=4 } (Value.int IntKind.u64 a3)).setCell { block:=w.heap.size,off:=5 } (Value.slice sp sn sc)).setCell { block:=w.heap.size,off:=6 } (Value.int IntKind.i64 lo)).setCell { block:=w.heap.size,off:=7 } (Value.int IntKind.i64 hi)).setCell { block:=w.heap.size+1,off:=0 } (Value.int IntKind.i64 0)).setCell { block:=w.heap.size+1,off:=1 } (Value.int IntKind.i64 0))=W3 at *;refine leaves_cons (f:=20) (args:=#[.pointer (some ⟨w.heap.size,0,none⟩),.pointer (some ⟨w.heap.size+1,0,none⟩)]) (by simp) (by simp[go_sem]) ?_;refine ps_idle.mono ?_;rintro r u w5 ⟨⟨v,rfl⟩,rfl,rfl⟩;have m0:=zht k0 (Obj.cells #[Value.int IntKind.i64 0,Value.int IntKind.i64 0] 34);have m1:=zht k1 (Obj.cells #[Value.int IntKind.i64 0,Value.int IntKind.i64 0] 34);have e00:=(m0 0 _ rfl).1;have e01:=(m0 1 _ rfl).1;have e02:=(m0 2 _ rfl).1;have e03:=(m0 3 _ rfl).1;have e04:=(m0 4 _ rfl).1;have e05:=(m0 5 _ rfl).1;have e06:=(m0 6 _ rfl).1;have e07:=(m0 7 _ rfl).1;have e10:=(m1 0 _ rfl).1;have e11:=(m1 1 _ rfl).1;refine⟨_,?_,_,S',rfl,HF.out,k2.alloc _ _⟩;clear k0 k1 k2 m0 m1 hmf;simp[results,Go.Proofs.Tryd.results8,go_sem,e00,e01,e02,e03,e04,e05,e06,e07,e10,e11]
set_option maxHeartbeats 16000000 in
theorem z1en {w:World}{s:List UInt8}{S:Hp}{e a:Int}(hlen:¬ (256:Int)<s.length)(hs0:S (w.heap.size)=none)(hs1:S (w.heap.size+1)=none)
 (hc:Calls Go.Proofs.Tryd.prog 21 #[.pointer (some ⟨w.heap.size+1+1,0,none⟩)] (((w.alloc (Obj.cells #[Value.int IntKind.i64 0,Value.int IntKind.u64 0,Value.int IntKind.u64 0,Value.int IntKind.u64 0,Value.int IntKind.u64 0,Value.slice none 0 0,Value.int IntKind.i64 0,Value.int IntKind.i64 0] 27)).alloc (Obj.cells #[Value.int IntKind.i64 0,Value.int IntKind.i64 0] 34)).alloc (Obj.cells #[Value.string ⟨⟨s⟩⟩,Value.int IntKind.i64 0,Value.int IntKind.i64 0] 58)) fun r w2=>r=.panicked [{ v:=.iface 34 (.agg #[.int .i64 e,.int .i64 a]),recovered:=false }]/\Cl w2 (w.heap.size) [.int .i64 0,.int .u64 0,.int .u64 0,.int .u64 0,.int .u64 0,.slice none 0 0,.int .i64 0,.int .i64 0]/\Cl w2 (w.heap.size+1) [.int .i64 0,.int .i64 0]/\PsW w S S w2) :
 Calls Go.Proofs.Tryd.prog 8 #[.string ⟨⟨s⟩⟩] w fun r w'=>r=.returned (.tuple #[.agg #[Value.int IntKind.i64 0,Value.int IntKind.u64 0,Value.int IntKind.u64 0,Value.int IntKind.u64 0,Value.int IntKind.u64 0,Value.slice none 0 0,Value.int IntKind.i64 0,Value.int IntKind.i64 0],.agg #[.int .i64 e,.int .i64 a]])/\PsW w S S w':=by
 have hmf:∀ (fn:Fn) (first cap:Array Value) (w:World),(Instr.makeFunc fn first cap).run Go.Proofs.Tryd.prog w=.ok (.func fn first cap) w:=fun _ _ _ _=>rfl
 have p1:w.heap.size+1+1≠w.heap.size:=by omega
 have p2:w.heap.size+1≠w.heap.size:=by omega
 go_enter_defers Go.Proofs.Tryd.func8,Go.Proofs.Tryd.ntmps8
 go_wp2_with (first
  | (go_at_call 21;refine hc.mono ?_;rintro r w2 ⟨rfl,hC0,hC1,hP⟩;have H0:=Go.Lib.hid hC0;have H1:=Go.Lib.hid hC1;have HP:=Go.Lib.hid hP;clear hc hC0 hC1 hP))
 refine leaves_cons (f:=20) (args:=#[.pointer (some ⟨w.heap.size,0,none⟩),.pointer (some ⟨w.heap.size+1,0,none⟩)]) (by simp) (by simp[go_sem]) ?_;refine (zsz (R:=fun w'=>Cl w' (w.heap.size) [.int .i64 0,.int .u64 0,.int .u64 0,.int .u64 0,.int .u64 0,.slice none 0 0,.int .i64 0,.int .i64 0]/\Cl w' (w.heap.size+1) [.int .i64 e,.int .i64 a]/\PsW w S S w') (zht H0.out _) (zht H1.out _) p2.symm (Nat.ne_of_lt (zu3 H0.out)) (Nat.ne_of_lt (zu3 H1.out)) (fun w' g0 g1 g2=>⟨g0,g1,g2 w S S HP.out (Nat.le_refl _) (Nat.le_succ _) hs0 hs1⟩)).mono ?_;rintro r u w5 ⟨⟨v,rfl⟩,rfl,m0,m1,hP5⟩;have e00:=(m0 0 _ rfl).1;have e01:=(m0 1 _ rfl).1;have e02:=(m0 2 _ rfl).1;have e03:=(m0 3 _ rfl).1;have e04:=(m0 4 _ rfl).1;have e05:=(m0 5 _ rfl).1;have e06:=(m0 6 _ rfl).1;have e07:=(m0 7 _ rfl).1;have e10:=(m1 0 _ rfl).1;have e11:=(m1 1 _ rfl).1;clear m0 m1 hmf H0 H1;simp[Leaves,settle,results,Go.Proofs.Tryd.results8,go_sem,e00,e01,e02,e03,e04,e05,e06,e07,e10,e11];exact hP5
set_option maxHeartbeats 16000000 in
theorem z1eo {w:World}{s:List UInt8}{S:Hp}{at_:Int}(hlen:¬ (256:Int)<s.length)
 (hc:Calls Go.Proofs.Tryd.prog 21 #[.pointer (some ⟨w.heap.size+1+1,0,none⟩)] (((w.alloc (Obj.cells #[Value.int IntKind.i64 0,Value.int IntKind.u64 0,Value.int IntKind.u64 0,Value.int IntKind.u64 0,Value.int IntKind.u64 0,Value.slice none 0 0,Value.int IntKind.i64 0,Value.int IntKind.i64 0] 27)).alloc (Obj.cells #[Value.int IntKind.i64 0,Value.int IntKind.i64 0] 34)).alloc (Obj.cells #[Value.string ⟨⟨s⟩⟩,Value.int IntKind.i64 0,Value.int IntKind.i64 0] 58)) fun r w2=>∃ (k a0 a1 a2 a3 lo hi:Int) (sp:Option Addr) (sn sc:Nat) (S':Hp),r=.returned (.agg #[.int .i64 k,.int .u64 a0,.int .u64 a1,.int .u64 a2,.int .u64 a3,.slice sp sn sc,.int .i64 lo,.int .i64 hi])/\Cl w2 (w.heap.size) [.int .i64 0,.int .u64 0,.int .u64 0,.int .u64 0,.int .u64 0,.slice none 0 0,.int .i64 0,.int .i64 0]/\Cl w2 (w.heap.size+1) [.int .i64 0,.int .i64 0]/\w2.cell? ⟨w.heap.size+1+1,1,none⟩=some (.int .i64 at_)/\S' (w.heap.size)=none/\S' (w.heap.size+1)=none/\PsW w S S' w2)
 (hat:at_<s.length) :
 Calls Go.Proofs.Tryd.prog 8 #[.string ⟨⟨s⟩⟩] w fun r w'=>r=.returned (.tuple #[.agg #[Value.int IntKind.i64 0,Value.int IntKind.u64 0,Value.int IntKind.u64 0,Value.int IntKind.u64 0,Value.int IntKind.u64 0,Value.slice none 0 0,Value.int IntKind.i64 0,Value.int IntKind.i64 0],.agg #[.int .i64 2,.int .i64 at_]])/\∃ S',PsW w S S' w':=by
 have hmf:∀ (fn:Fn) (first cap:Array Value) (w:World),(Instr.makeFunc fn first cap).run Go.Proofs.Tryd.prog w=.ok (.func fn first cap) w:=fun _ _ _ _=>rfl
 have p1:w.heap.size+1+1≠w.heap.size:=by omega
 have p2:w.heap.size+1≠w.heap.size:=by omega
 go_enter_defers Go.Proofs.Tryd.func8,Go.Proofs.Tryd.ntmps8
 go_wp2_with (first
  | (go_at_call 21;refine hc.mono ?_;rintro r w2 ⟨k,a0,a1,a2,a3,lo,hi,sp,sn,sc,S',rfl,hC0,hC1,hat2,hs0,hs1,hP⟩;have c00:=(hC0 0 _ rfl).1;have z00:=(hC0 0 _ rfl).2;have c01:=(hC0 1 _ rfl).1;have z01:=(hC0 1 _ rfl).2;have c02:=(hC0 2 _ rfl).1;have z02:=(hC0 2 _ rfl).2;have c03:=(hC0 3 _ rfl).1;have z03:=(hC0 3 _ rfl).2;have c04:=(hC0 4 _ rfl).1;have z04:=(hC0 4 _ rfl).2;have c05:=(hC0 5 _ rfl).1;have z05:=(hC0 5 _ rfl).2;have c06:=(hC0 6 _ rfl).1;have z06:=(hC0 6 _ rfl).2;have c07:=(hC0 7 _ rfl).1;have z07:=(hC0 7 _ rfl).2;have c10:=(hC1 0 _ rfl).1;have z10:=(hC1 0 _ rfl).2;have c11:=(hC1 1 _ rfl).1;have z11:=(hC1 1 _ rfl).2;have hl0:w.heap.size<w2.heap.size:=zu3 hC0;have hl1:w.heap.size+1<w2.heap.size:=zu3 hC1;have H0:=Go.Lib.hid hC0;have H1:=Go.Lib.hid hC1;have HP:=Go.Lib.hid hP;clear hc hC0 hC1 hP)
  | (go_at_call 22;refine fail_walk.mono ?_;rintro r w3 ⟨rfl,rfl⟩))
 have k0:Cl (((((((((w2).setCell { block:=w.heap.size,off:=0 } (Value.int IntKind.i64 k)).setCell { block:=w.heap.size,off:=1 } (Value.int IntKind.u64 a0)).setCell { block:=w.heap.size,off:=2 } (Value.int IntKind.u64 a1)).setCell { block:=w.heap.size,off:=3 } (Value.int IntKind.u64 a2)).setCell { block:=w.heap.size,off:=4 } (Value.int IntKind.u64 a3)).setCell { block:=w.heap.size,off:=5 } (Value.slice sp sn sc)).setCell { block:=w.heap.size,off:=6 } (Value.int IntKind.i64 lo)).setCell { block:=w.heap.size,off:=7 } (Value.int IntKind.i64 hi)) (w.heap.size) [.int .i64 k,.int .u64 a0,.int .u64 a1,.int .u64 a2,.int .u64 a3,.slice sp sn sc,.int .i64 lo,.int .i64 hi]:=(z5t (z5t (z5t (z5t (z5t (z5t (z5t (z5t H0.out 0 _) 1 _) 2 _) 3 _) 4 _) 5 _) 6 _) 7 _)
 have k1:Cl (((((((((w2).setCell { block:=w.heap.size,off:=0 } (Value.int IntKind.i64 k)).setCell { block:=w.heap.size,off:=1 } (Value.int IntKind.u64 a0)).setCell { block:=w.heap.size,off:=2 } (Value.int IntKind.u64 a1)).setCell { block:=w.heap.size,off:=3 } (Value.int IntKind.u64 a2)).setCell { block:=w.heap.size,off:=4 } (Value.int IntKind.u64 a3)).setCell { block:=w.heap.size,off:=5 } (Value.slice sp sn sc)).setCell { block:=w.heap.size,off:=6 } (Value.int IntKind.i64 lo)).setCell { block:=w.heap.size,off:=7 } (Value.int IntKind.i64 hi)) (w.heap.size+1) [.int .i64 0,.int .i64 0]:=(z1s (z1s (z1s (z1s (z1s (z1s (z1s (z1s H1.out p2.symm 0 _) p2.symm 1 _) p2.symm 2 _) p2.symm 3 _) p2.symm 4 _) p2.symm 5 _) p2.symm 6 _) p2.symm 7 _)
 have k2:PsW w S S' (((((((((w2).setCell { block:=w.heap.size,off:=0 } (Value.int IntKind.i64 k)).setCell { block:=w.heap.size,off:=1 } (Value.int IntKind.u64 a0)).setCell { block:=w.heap.size,off:=2 } (Value.int IntKind.u64 a1)).setCell { block:=w.heap.size,off:=3 } (Value.int IntKind.u64 a2)).setCell { block:=w.heap.size,off:=4 } (Value.int IntKind.u64 a3)).setCell { block:=w.heap.size,off:=5 } (Value.slice sp sn sc)).setCell { block:=w.heap.size,off:=6 } (Value.int IntKind.i64 lo)).setCell { block:=w.heap.size,off:=7 } (Value.int IntKind.i64 hi)):=((((((((HP.out.setCell (Nat.le_refl _) hs0).setCell (Nat.le_refl _) hs0).setCell (Nat.le_refl _) hs0).setCell (Nat.le_refl _) hs0).setCell (Nat.le_refl _) hs0).setCell (Nat.le_refl _) hs0).setCell (Nat.le_refl _) hs0).setCell (Nat.le_refl _) hs0)
 clear c00 z00 c01 z01 c02 z02 c03 z03 c04 z04 c05 z05 c06 z06 c07 z07 c10 z10 c11 z11;generalize (((((((((w2).setCell { block:=w.heap.size,off:=0 } (Value.int IntKind.i64 k)).setCell { block:=w.heap.size,off:=1 } (Value.int IntKind.u64 a0)).setCell { block:=w.heap.size,off:=2 } (Value.int IntKind.u64 a1)).setCell { block:=w.heap.size,off:=3 } (Value.int IntKind.u64 a2)).setCell { block:=w.heap.size,off:=4 } (Value.int IntKind.u64 a3)).setCell { block:=w.heap.size,off:=5 } (Value.slice sp sn sc)).setCell { block:=w.heap.size,off:=6 } (Value.int IntKind.i64 lo)).setCell { block:=w.heap.size,off:=7 } (Value.int IntKind.i64 hi))=W3 at *;refine leaves_cons (f:=20) (args:=#[.pointer (some ⟨w.heap.size,0,none⟩),.pointer (some ⟨w.heap.size+1,0,none⟩)]) (by simp) (by simp[go_sem]) ?_;refine (zsz (R:=fun w'=>Cl w' (w.heap.size) [.int .i64 0,.int .u64 0,.int .u64 0,.int .u64 0,.int .u64 0,.slice none 0 0,.int .i64 0,.int .i64 0]/\Cl w' (w.heap.size+1) [.int .i64 2,.int .i64 at_]/\PsW w S S' w') (zht k0 _) (zht k1 _) p2.symm (Nat.ne_of_lt (zu3 k0)) (Nat.ne_of_lt (zu3 k1)) (fun w' g0 g1 g2=>⟨g0,g1,g2 w S S' k2 (Nat.le_refl _) (Nat.le_succ _) hs0 hs1⟩)).mono ?_;rintro r u w5 ⟨⟨v,rfl⟩,rfl,m0,m1,hP5⟩;have e00:=(m0 0 _ rfl).1;have e01:=(m0 1 _ rfl).1;have e02:=(m0 2 _ rfl).1;have e03:=(m0 3 _ rfl).1;have e04:=(m0 4 _ rfl).1;have e05:=(m0 5 _ rfl).1;have e06:=(m0 6 _ rfl).1;have e07:=(m0 7 _ rfl).1;have e10:=(m1 0 _ rfl).1;have e11:=(m1 1 _ rfl).1;clear m0 m1 hmf k0 k1 H0 H1;simp[Leaves,settle,results,Go.Proofs.Tryd.results8,go_sem,e00,e01,e02,e03,e04,e05,e06,e07,e10,e11];exact⟨S',hP5⟩
theorem zy1 {S:Hp}{y:NodT.den}{v:Value}(h:VR S NodT y v):∃ (k a0 a1 a2 a3 lo hi:Int) (sp:Option Addr) (sn sc:Nat),v=.agg #[.int .i64 k,.int .u64 a0,.int .u64 a1,.int .u64 a2,.int .u64 a3,.slice sp sn sc,.int .i64 lo,.int .i64 hi]:=by
 unfold VR at h;simp only[T.isAgg,if_true] at h;obtain⟨cs,e,h⟩:=h;obtain⟨c1,d1,e1,h1,c2,d2,e2,h2,c3,d3,e3,h3,c4,d4,e4,h4,c5,d5,e5,h5,h6⟩:=h;have h1:c1=[.int .i64 y.1]:=h1;have h4:c4=[.int .i64 y.2.2.2.1]:=h4;have h5:c5=[.int .i64 y.2.2.2.2.1]:=h5;have h6:d5=[]:=h6;obtain⟨hl,ha⟩:=h2;obtain⟨sp,sc,h3,_⟩:=h3;obtain⟨k,arr,sl,lo,hi,u⟩:=y
 match arr,hl with
 | [a0,a1,a2,a3],_ =>
   obtain⟨q0,r0,f0,g0,q1,r1,f1,g1,q2,r2,f2,g2,q3,r3,f3,g3,g4⟩:=ha;have g0:q0=[.int .u64 a0]:=g0;have g1:q1=[.int .u64 a1]:=g1;have g2:q2=[.int .u64 a2]:=g2;have g3:q3=[.int .u64 a3]:=g3;have g4:r3=[]:=g4;refine⟨k,a0,a1,a2,a3,lo,hi,sp,List.length sl,sc,?_⟩;rw[e];congr 1;apply Array.toList_inj.1;rw[e1,h1,e2,f0,g0,f1,g1,f2,g2,f3,g3,g4,e3,h3,e4,h4,e5,h5,h6];rfl
abbrev z173:T:=.pair (.int .i64) (.pair (.int .i64) .unit)
def z19s:NodT.den:=((0:Int),(([(0:Int),0,0,0]:List Int),(([]:List Go.Lift.Tree),((0:Int),((0:Int),())))))
theorem zuo (S:Hp):VR S NodT z19s (.agg #[Value.int IntKind.i64 0,Value.int IntKind.u64 0,Value.int IntKind.u64 0,Value.int IntKind.u64 0,Value.int IntKind.u64 0,Value.slice none 0 0,Value.int IntKind.i64 0,Value.int IntKind.i64 0]):=(z18l (t:=NodT) (x:=z19s) rfl).mono (zbv _)
theorem zx1 (S:Hp)(e a:Int):VR S z173 (e,a,()) (.agg #[.int .i64 e,.int .i64 a]):=(z18l (t:=z173) (x:=(e,a,())) rfl).mono (zbv _)
def z69 (N:Nat)(s:List UInt8):Option (z4u [NodT,z173]) :=
 cond (decide ((256:Int)<s.length))
 (some (z19s,((3,256,()),())))
 (orP (zo N (s,(0,(0,())))) (fun z=>some (z19s,(z,())))
 ((zf N (s,(0,(0,())))).bind fun y =>
 cond (decide (y.2.1.2.1<(s.length:Int)))
 (some (z19s,((2,y.2.1.2.1,()),())))
 (some (y.1,((0,0,()),())))))
def zco (N:Nat):List A->Res:=z17 [(0,.v .str)] (fun x=>z69 N x.1) (zag (.tup [NodT,z173]) 1)
theorem z1n7 {w:World}{n:Nat}{cs:Array Value}{E:Nat}(h:w.heap[n]?=some (.cells cs E (0,0))):Cl w n cs.toList:=by
 intro i v hi;have hi':cs[i]?=some v:=by rw[<- Array.getElem?_toList];exact hi
 constructor
 . simp[World.cell?,h,hi']
 . simp[World.frozen?,h]
def psW (w:World)(s:List UInt8):World:=((w.alloc (Obj.cells #[Value.int IntKind.i64 0,Value.int IntKind.u64 0,Value.int IntKind.u64 0,Value.int IntKind.u64 0,Value.int IntKind.u64 0,Value.slice none 0 0,Value.int IntKind.i64 0,Value.int IntKind.i64 0] 27)).alloc (Obj.cells #[Value.int IntKind.i64 0,Value.int IntKind.i64 0] 34)).alloc (Obj.cells #[Value.string ⟨⟨s⟩⟩,Value.int IntKind.i64 0,Value.int IntKind.i64 0] 58)
theorem zt0 (w:World)(s:List UInt8):(psW w s).heap.size=w.heap.size+3/\(psW w s).heap[w.heap.size]?=some (.cells #[Value.int IntKind.i64 0,Value.int IntKind.u64 0,Value.int IntKind.u64 0,Value.int IntKind.u64 0,Value.int IntKind.u64 0,Value.slice none 0 0,Value.int IntKind.i64 0,Value.int IntKind.i64 0] 27 (0,0))/\(psW w s).heap[w.heap.size+1]?=some (.cells #[Value.int IntKind.i64 0,Value.int IntKind.i64 0] 34 (0,0)) ∧
 (psW w s).heap[w.heap.size+1+1]?=some (.cells #[Value.string ⟨⟨s⟩⟩,Value.int IntKind.i64 0,Value.int IntKind.i64 0] 58 (0,0))/\(∀ k,k<w.heap.size->(psW w s).heap[k]?=w.heap[k]?) ∧
 (psW w s).tape=w.tape/\(psW w s).os=w.os/\(psW w s).output=w.output:=by
 have hh:(psW w s).heap=((w.heap.push (.cells #[Value.int IntKind.i64 0,Value.int IntKind.u64 0,Value.int IntKind.u64 0,Value.int IntKind.u64 0,Value.int IntKind.u64 0,Value.slice none 0 0,Value.int IntKind.i64 0,Value.int IntKind.i64 0] 27 (0,0))).push (.cells #[Value.int IntKind.i64 0,Value.int IntKind.i64 0] 34 (0,0))).push (.cells #[Value.string ⟨⟨s⟩⟩,Value.int IntKind.i64 0,Value.int IntKind.i64 0] 58 (0,0)):=rfl;refine⟨by rw[hh];simp,?_,?_,?_,fun k hk=>?_,rfl,rfl,rfl⟩
 . rw[hh,Array.getElem?_push,if_neg (by simp;omega),Array.getElem?_push,if_neg (by simp),Array.getElem?_push,if_pos rfl]
 . rw[hh,Array.getElem?_push,if_neg (by simp),Array.getElem?_push,if_pos (by simp)]
 . rw[hh,Array.getElem?_push,if_pos (by simp)]
 . rw[hh,Array.getElem?_push,if_neg (by simp;omega),Array.getElem?_push,if_neg (by simp;omega),Array.getElem?_push,if_neg (by omega)]
theorem z19k {w:World}{s:List UInt8}{S:Hp}(hS:Lift.Sub S (hp w)):ArgsRel (hp (psW w s)) S [.box PrsT (s,(0,(0,())))] [.pointer (some ⟨w.heap.size+1+1,0,none⟩)] (fun i=>if i=0 then [w.heap.size+1+1] else [])/\Lift.Sub S (hp (psW w s)):=by
 obtain⟨f1,f2,f3,f4,f5,_⟩:=zt0 w s;have hsub:Lift.Sub S (hp (psW w s)):=fun k q hk=>by
  have:=hS k q hk;simp only[hp] at this ⊢;rw[f5 k (z7o (hS k q hk))];exact this
 refine⟨zs4 (w:=psW w s) (args:=[]) (vals:=[]) ?_ (by simp) (fun k hk=>?_) ⟨rfl,fun i x h=>(by cases h),fun _ _=>rfl,fun i j b hb=>(by cases hb),fun _=>.nil,fun i b hb=>(by cases hb)⟩,hsub⟩
 . refine⟨w.heap.size+1+1,_,_,_,[],rfl,rfl,f4,zh4 _,RdO.of_rd PrsT _ _ ?_⟩;exact⟨[.string ⟨⟨s⟩⟩],_,rfl,rfl,[.int .i64 0],_,rfl,rfl,[.int .i64 0],[],rfl,rfl,rfl⟩
 . have:k=w.heap.size+1+1:=by simpa using hk
   subst this;cases hx:S (w.heap.size+1+1) with
   | none=>rfl
   | some o=>exact absurd (z7o (hS _ _ hx)) (by omega)
theorem zr6 {w:World}{S:Hp}(hS:Lift.Sub S (hp w)){k:Nat}(hk:w.heap.size<=k):S k=none:=by
 cases hx:S k with
 | none=>rfl
 | some o=>exact absurd (z7o (hS _ _ hx)) (by omega)
theorem zxn {w w2:World}{s:List UInt8}{S S':Hp}(hS:Lift.Sub S (hp w))(hwf:WF (psW w s) (fun b=>∃ i,b∈(fun i=>if i=0 then [w.heap.size+1+1] else []) i) w2)(hSS:Lift.Sub S S')(hSw:Lift.Sub S' (hp w2))
 (hnew:∀ b,S' b≠none->S b≠none\/b=w.heap.size+1+1\/(psW w s).heap.size<=b) :
 Cl w2 w.heap.size [.int .i64 0,.int .u64 0,.int .u64 0,.int .u64 0,.int .u64 0,.slice none 0 0,.int .i64 0,.int .i64 0]/\Cl w2 (w.heap.size+1) [.int .i64 0,.int .i64 0]/\S' w.heap.size=none/\S' (w.heap.size+1)=none/\PsW w S S' w2:=by
 obtain⟨f1,f2,f3,f4,f5,f6,f7,f8⟩:=zt0 w s;have hin:∀ k,(∃ i,k∈(fun i=>if i=0 then [w.heap.size+1+1] else []) i)->k=w.heap.size+1+1:=by
  rintro k ⟨i,hi⟩;by_cases hi0:i=0
  . simpa[hi0] using hi
  . simp[hi0] at hi
 have g0:=hwf.same w.heap.size (by omega) (fun h=>by have:=hin _ h;omega);have g1:=hwf.same (w.heap.size+1) (by omega) (fun h=>by have:=hin _ h;omega);rw[f2] at g0;rw[f3] at g1;refine⟨z1n7 g0,z1n7 g1,?_,?_,⟨by have:=hwf.size;omega,fun k hk _=>?_,hwf.tape.trans f6,hwf.os.trans f7,hwf.output.trans f8⟩,hSS,hSw,fun k hk=>?_⟩
 . cases hx:S' w.heap.size with
   | none=>rfl
   | some o =>
     rcases hnew _ (by rw[hx];simp) with h|h|h
     . exact absurd (zr6 hS (Nat.le_refl _)) h
     . omega
     . omega
 . cases hx:S' (w.heap.size+1) with
   | none=>rfl
   | some o =>
     rcases hnew _ (by rw[hx];simp) with h|h|h
     . exact absurd (zr6 hS (by omega)) h
     . omega
     . omega
 . rw[hwf.same k (by omega) (fun h=>by have:=hin _ h;omega),f5 k hk]
 . rcases hnew k hk with h|h|h
   . exact .inl h
   . exact .inr (by omega)
   . exact .inr (by omega)
theorem z1ep {w:World}{S:Hp}{x:PrsT.den}{b:Nat}{o:List Nat}(h:ARel (hp w) S (fun _=>undef) (.box PrsT x) (.pointer (some ⟨b,0,none⟩)) o):w.cell? ⟨b,1,none⟩=some (.int .i64 x.2.1):=by
 obtain⟨b',cs,E,fr,bs,e,e',hb,hf,hr⟩:=h;cases e';obtain⟨_,c1,d1,hc,h1,c2,d2,hc2,h2,h3⟩:=RdO.rd PrsT x _ _ rfl hr;have k1:c1=[.string ⟨⟨x.1⟩⟩]:=h1;have k2:c2=[.int .i64 x.2.1]:=h2;have:cs[1]?=some (.int .i64 x.2.1):=by
  rw[<- Array.getElem?_toList,hc,k1,hc2,k2];rfl
 have hb:w.heap[b]?=some (.cells cs E fr):=hb;simp[World.cell?,hb,this]
theorem zr7 {w w':World}{s:List UInt8}{S S':Hp}{ob:Nat->List Nat}{y:z4u [NodT,z173]}{v1 v2:Value}(hob:∀ i,ob i=[])(hP:PsW w S S' w')(h1:VR S' NodT y.1 v1)(h2:VR S' z173 y.2.1 v2) :
 Lift.Ends w S (mkS [(0,.v .str)] 0 (s,())) [.string ⟨⟨s⟩⟩] ob (zag (.tup [NodT,z173]) 1 y).1 (zag (.tup [NodT,z173]) 1 y).2 (.returned (.tuple #[v1,v2])) w':=by
 obtain⟨k1,k2,k3,k4⟩:=hP;refine⟨_,S',[],ob,rfl,⟨k1.size,fun k hk _=>k1.same k hk (fun h=>h),k1.tape,k1.os,k1.output⟩,k2,k3,fun k hk=>?_,⟨⟨rfl,_,rfl,.cons h1 (.cons h2 .nil)⟩,rfl⟩,(fun k hk=>by cases hk),.nil,?_,?_,?_,?_,fun _ h=>h⟩
 . rcases k4 k hk with h|h
   . exact .inl h
   . exact .inr (.inr h)
 . intro i x hx hbx
   match i with
   | 0=>simp[mkS,zax,AS.mk] at hx;subst hx;simp[zbm] at hbx
   | i+1=>simp[mkS,zax] at hx
 . intro i k hk;rw[hob i] at hk;cases hk
 . intro i j k hi;rw[hob i] at hi;cases hi
 . intro i;rw[hob i];exact .nil
theorem zi6 (N:Nat):Contract Go.Proofs.Tryd.prog glob 8 (zco N):=by
 refine Contract.hand ⟨_,Go.Proofs.Tryd.func8,by kernel_rfl,by decide⟩ ?_;intro w S vals ob x y har hS hg hy;obtain⟨s,u⟩:=x;cases u;have hob:∀ i,ob i=[]:=by
  intro i;rcases i with _|i
  . obtain⟨⟨v,hv,hA⟩,_⟩:=har.rel 0 _ rfl;exact hA.2
  . exact har.out _ (by simp[mkS,zax])
 have hvals:vals=[.string ⟨⟨s⟩⟩]:=by
  have hlen:=har.len;obtain⟨⟨v0,hv0,hA0⟩,_⟩:=har.rel 0 _ rfl;have e0:v0=.string ⟨⟨s⟩⟩:=VR.str_inv hA0.1
  match vals,hlen with
  | [a],_=>cases hv0;rw[e0]
 subst hvals;have hy:z69 N s=some y:=hy;unfold z69 at hy;by_cases hlen:(256:Int)<s.length
 . rw[decide_eq_true hlen] at hy;cases hy;refine (z19j hS hlen).mono ?_;rintro r w' ⟨rfl,hP⟩;exact zr7 hob hP (zuo _) (zx1 _ _ _)
 . rw[decide_eq_false hlen] at hy;simp only[cond_false] at hy;obtain⟨hA,hSB⟩:=z19k (s:=s) hS;rcases zrb hy with⟨z,hz,hK⟩|⟨_,hK⟩
   . cases hK;have hc:=(z67 N).2 (psW w s) S _ _ _ hA hSB hg z hz;refine (z1en hlen (zr6 hS (Nat.le_refl _)) (zr6 hS (Nat.le_succ _)) (e:=z.1) (a:=z.2.1) (hc.mono ?_)).mono ?_
     . rintro e w2 ⟨rfl,hwf,hsub⟩;obtain⟨q1,q2,q3,q4,q5⟩:=zxn hS hwf (Lift.Sub.refl S) hsub (fun b hb=>.inl hb);exact⟨rfl,q1,q2,q5⟩
     . rintro r w' ⟨rfl,hP⟩;obtain⟨z1,z2,u⟩:=z;exact zr7 hob hP (zuo _) (zx1 _ _ _)
   . obtain⟨q,hq,hK⟩:=Option.bind_eq_some_iff.1 hK;have hc:=(z2s N).2 (psW w s) S _ _ _ hA hSB hg q hq;have key:∀ e w2,Lift.Ends (psW w s) S [.box PrsT (s,(0,(0,())))] [.pointer (some ⟨w.heap.size+1+1,0,none⟩)] (fun i=>if i=0 then [w.heap.size+1+1] else []) (.v NodT q.1) [.box PrsT q.2.1] e w2 →
      ∃ v S',e=.returned v/\VR S' NodT q.1 v/\Cl w2 w.heap.size [.int .i64 0,.int .u64 0,.int .u64 0,.int .u64 0,.int .u64 0,.slice none 0 0,.int .i64 0,.int .i64 0]/\Cl w2 (w.heap.size+1) [.int .i64 0,.int .i64 0]/\w2.cell? ⟨w.heap.size+1+1,1,none⟩=some (.int .i64 q.2.1.2.1)/\S' w.heap.size=none/\S' (w.heap.size+1)=none/\PsW w S S' w2:=by
      rintro e w2 ⟨v,S',o,ob',rfl,hwf,hSS,hSw,hnew,⟨hr,_⟩,_,_,hbox,_⟩;obtain⟨x2,v2,g1,g2,_,g4⟩:=hbox 0 _ rfl rfl;simp at g1 g2;subst g1;subst g2;obtain⟨q1,q2,q3,q4,q5⟩:=zxn hS hwf hSS hSw (fun b hb=>by
       rcases hnew b hb with h|⟨i,hi⟩|h
       . exact .inl h
       . by_cases hi0:i=0
         . simp[hi0] at hi;exact .inr (.inl hi)
         . simp[hi0] at hi
       . exact .inr (.inr h))
      exact⟨v,S',rfl,hr.1,q1,q2,z1ep g4,q3,q4,q5⟩
     by_cases hat:q.2.1.2.1<(s.length:Int)
     . rw[decide_eq_true hat] at hK;cases hK;refine (z1eo (S:=S) hlen (at_:=q.2.1.2.1) (hc.mono ?_) hat).mono ?_
       . intro e w2 h;obtain⟨v,S',rfl,hv,q1,q2,q3,q4,q5,q6⟩:=key e w2 h;obtain⟨k,a0,a1,a2,a3,lo,hi,sp,sn,sc,rfl⟩:=zy1 hv;exact⟨k,a0,a1,a2,a3,lo,hi,sp,sn,sc,S',rfl,q1,q2,q3,q4,q5,q6⟩
       . rintro r w' ⟨rfl,S',hP⟩;exact zr7 hob hP (zuo _) (zx1 _ _ _)
     . rw[decide_eq_false hat] at hK;cases hK;refine (ps_ok (S:=S) hlen (at_:=q.2.1.2.1) (F:=fun S' v=>VR S' NodT q.1 v) (hc.mono ?_) hat).mono ?_
       . intro e w2 h;obtain⟨v,S',rfl,hv,q1,q2,q3,q4,q5,q6⟩:=key e w2 h;obtain⟨k,a0,a1,a2,a3,lo,hi,sp,sn,sc,rfl⟩:=zy1 hv;exact⟨k,a0,a1,a2,a3,lo,hi,sp,sn,sc,S',rfl,q1,q2,q3,q4,q5,q6,hv⟩
       . rintro r w' ⟨v,S',rfl,hv,hP⟩;exact zr7 hob hP hv (zx1 _ _ _)
end
end Go.Proofs.YthgcpalmjcomlaaDoorLg
set_option linter.all false
set_option maxRecDepth 100000
namespace Go.Proofs.YthgcpalmjcomlaaDoorLg
noncomputable section
open Go Go.Lift Go.Proofs
section
variable {P:Program} {w:World} (a:Addr) (m:Mode)
@[local go_sem] theorem zm6 (fn:Fn) (x y:Array Value):(store a (.func fn x y) m).run P w=stored P w a (.func fn x y) m:=run_store P w a _ m rfl
end
attribute [local go_sem] zm6
theorem z14y {w0 w:World}(h:WF w0 (fun k=>k∈([]:List Nat)) w):WF w0 (fun _=>False) w:=⟨h.size,fun k hk _=>h.same k hk (by simp),h.tape,h.os,h.output⟩
theorem zvc {w0 w:World}{S0:Hp}(hS:Lift.Sub S0 (hp w0))(h:WF w0 (fun _=>False) w):NSt w0 S0 w S0 []:=by
 refine⟨h,Lift.Sub.refl _,fun k o hk=>?_,fun _ h=>.inl h,fun p hp=>by cases hp⟩;have h1:=hS k o hk;simp only[hp] at h1 ⊢;rw[h.same k (Array.getElem?_eq_some_iff.1 h1).1 (fun h=>h)];exact h1
theorem RSt.wf14 {w0 w:World}{S0:Hp}{B O F W:Nat}{st:zj9}{X:List (Nat×Array Value×Nat)}(h:RSt w0 S0 B O F W st X w):WF w0 (fun _=>False) w:=by
 obtain⟨⟨S,o,h1,_⟩,_⟩:=h;exact z14y h1
theorem z14b {w0 w:World}{S0 S:Hp}{L:List (Nat×Array Value×Nat)}(h:NSt w0 S0 w S L):BSt z10k w0 S0 [] w.heap.size (w.alloc (.cells #[.pointer none,.slice none 0 0] 45)) ((),(z3m [],())) L:=by
 have hw:=h.alloc #[.pointer none,.slice none 0 0] 45;have hm:=hw.own _ (.head _);simp only at hm;refine⟨S,[w.heap.size],⟨hw.wf.size,fun k hk _=>hw.wf.same k hk (fun h=>h),hw.wf.tape,hw.wf.os,hw.wf.output⟩,hw.sub,hw.inw,fun k hk=>?_,?_,by simp,fun k hk=>?_,fun p hp=>?_⟩
 . rcases hw.new k hk with h|h
   . exact .inl h
   . exact .inr (.inr h)
 . refine⟨w.heap.size,#[.pointer none,.slice none 0 0],45,(0,0),[],rfl,rfl,hm.2.2,?_,?_⟩
   . exact⟨Nat.le_refl _,fun i _ h=>by omega⟩
   . exact⟨[.pointer none],[.slice none 0 0],[],[],rfl,rfl,⟨rfl,_,rfl,rfl,.inl rfl⟩,[.slice none 0 0],[],[],[],rfl,rfl,⟨_,rfl,.inl ⟨rfl,⟨none,rfl,fun _ _=>rfl⟩,rfl⟩⟩,rfl,rfl⟩
 . rw[List.mem_singleton] at hk;subst hk;exact⟨hm.1,.inr hm.2.1⟩
 . obtain⟨p1,p2,p3⟩:=hw.own p (.tail _ hp);refine⟨p1,fun hk=>?_,p2,p3⟩;rw[List.mem_singleton] at hk;have:=(Array.getElem?_eq_some_iff.1 (h.own p hp).2.2).1;omega
theorem z11k {w0 w:World}{S0 S:Hp}{L:List (Nat×Array Value×Nat)}(h:NSt w0 S0 w S L) :
 RSt w0 S0 w.heap.size (w.heap.size+1) (w.heap.size+1+1) (w.heap.size+1+1+1) ([],((0:Int),true)) L
  ((((w.alloc (.cells #[.pointer none,.slice none 0 0] 45)).alloc (.cells #[.int .i64 0] 3)).alloc (.cells #[.bool true] 4)).alloc (.cells #[z14u w.heap.size (w.heap.size+1) (w.heap.size+1+1) (w.heap.size+1+1+1)] 46)):=by
 have h1:=z14b h;have h2:=((h1.alloc #[.int .i64 0] 3).alloc #[.bool true] 4).alloc #[z14u w.heap.size (w.heap.size+1) (w.heap.size+1+1) (w.heap.size+1+1+1)] 46;have s1:(w.alloc (.cells #[.pointer none,.slice none 0 0] 45)).heap.size=w.heap.size+1:=by simp
 have s2:((w.alloc (.cells #[.pointer none,.slice none 0 0] 45)).alloc (.cells #[.int .i64 0] 3)).heap.size=w.heap.size+1+1:=by simp
 have s3:(((w.alloc (.cells #[.pointer none,.slice none 0 0] 45)).alloc (.cells #[.int .i64 0] 3)).alloc (.cells #[.bool true] 4)).heap.size=w.heap.size+1+1+1:=by simp
 rw[s1,s2,s3] at h2;have hlt:∀ p∈L,p.1<w.heap.size:=fun p hp=>(Array.getElem?_eq_some_iff.1 (h.own p hp).2.2).1
 refine⟨h2.swap (fun p hp=>?_),by omega,by omega,by omega,fun p hp=>by have:=hlt p hp;omega⟩;simp only[List.mem_cons] at hp ⊢;rcases hp with h|h|h|h
 . exact .inr (.inr (.inl h))
 . exact .inr (.inl h)
 . exact .inl h
 . exact .inr (.inr (.inr h))
theorem zpx (s:List UInt8):zrd (z3m s)=true:=by
 unfold zrd z3m;rw[List.all_eq_true];intro n hn;obtain⟨b,_,rfl⟩:=List.mem_map.1 hn;have:=b.toNat_lt;simp;omega
theorem zkj (s:List UInt8):ze0 (z3m s)=s:=by
 unfold ze0 z3m;rw[List.map_map]
 conv=>rhs;rw[<- List.map_id s]
 apply List.map_congr_left;intro b _;simp
theorem zz4 {w0 w:World}{S0:Hp}{B O F W:Nat}{st:zj9}{X:List (Nat×Array Value×Nat)}(h:RSt w0 S0 B O F W st X w)(hl:st.1.length<=256) :
 Calls Go.Proofs.Tryd.prog 19 #[.pointer (some ⟨B,0,none⟩)] w fun q w'=>q=.returned (.string ⟨⟨st.1⟩⟩)/\WF w0 (fun _=>False) w':=by
 obtain⟨⟨S,o,h1,h2,h3,h4,h5,h6,h7,_⟩,_⟩:=h;have hy:zsh (((),(z3m st.1,())),())=some (st.1,(((),((),())),())):=by
  unfold zsh;dsimp only;rw[zpx,show decide _=true from decide_eq_true (by simp[z3m];omega),zkj];rfl
 have har:=zs4 h5 h6 (fun k hk=>(h7 k hk).1) (zoq (w:=w) (S:=S));refine ((z179 zde).2 w S _ _ _ har h3 (zfi S) _ hy).mono ?_;rintro e w' ⟨v,S',q,ob',rfl,hwf,hSS,hSw,hnew,⟨hr,_⟩,_⟩;have hin:∀ k,(∃ i,k∈(fun i=>if i=0 then o else []) i)->k∈o:=by
  rintro k ⟨i,hi⟩;by_cases hi0:i=0
  . simpa[hi0] using hi
  . simp[hi0] at hi
 have hv:VR S' .str st.1 v:=hr.1;refine⟨by rw[VR.str_inv hv],⟨Nat.le_trans h1.size hwf.size,fun k hk _=>?_,hwf.tape.trans h1.tape,hwf.os.trans h1.os,hwf.output.trans h1.output⟩⟩;rw[hwf.same k (by have:=h1.size;omega) (fun hh=>by
  rcases (h7 k (hin k hh)).2 with h|h
  . cases h
  . omega)]
 exact h1.same k hk (by simp)
def z5n (N:Nat)(n:NodT.den):Option (List UInt8×(Bool×Unit)) :=
 (z68 N n).bind fun r=>if r=false then some ([],(false,())) else
 (zov N N n false ([],((0:Int),true))).bind fun st=>if st.2.2=true/\st.1.length<=256 then some (st.1,(true,())) else some ([],(false,()))
def zb1 (N:Nat):List A->Res:=z17 [(0,.v NodT)] (fun x=>z5n N x.1) (zag (.tup [.str,.bool]) 1)
set_option maxHeartbeats 30000000 in
theorem zuq (N:Nat) {w:World} {S:Hp} (hS:Lift.Sub S (hp w)) (hg:GlobOk glob S) {n:NodT.den} {nv:Value} (hn:VR S NodT n nv) {y:List UInt8×(Bool×Unit)} (hy:z5n N n=some y) :
 Calls Go.Proofs.Tryd.prog 7 #[nv] w fun q w'=>q=.returned (.tuple #[.string ⟨⟨y.1⟩⟩,.bool y.2.1])/\WF w (fun _=>False) w':=by
 suffices HX:∀ R:Ending->World->Prop,Go.RowKit.Hid (∀ w',WF w (fun _=>False) w'->R (.returned (.tuple #[.string ⟨⟨y.1⟩⟩,.bool y.2.1])) w')->Calls Go.Proofs.Tryd.prog 7 #[nv] w R from HX _ (Go.Lib.hid (fun w' a=>⟨rfl,a⟩))
 intro R HR;obtain⟨r,hr,hy⟩:=Option.bind_eq_some_iff.1 hy;have hn':∃ cs,nv=.agg cs/\Rd S NodT n cs.toList:=hn;obtain⟨cs,rfl,hrd⟩:=hn';obtain⟨a,cap,c0,c1,c2,c3,hcs,hkids⟩:=zis hrd;obtain rfl:cs=#[.int .i64 n.1,.int .u64 c0,.int .u64 c1,.int .u64 c2,.int .u64 c3,.slice a n.2.2.1.length cap,.int .i64 n.2.2.2.1,.int .i64 n.2.2.2.2.1]:=by
  apply Array.toList_inj.1;rw[hcs]
 have hal:=(NSt.start hS).alloc #[.int .i64 n.1,.int .u64 c0,.int .u64 c1,.int .u64 c2,.int .u64 c3,.slice a n.2.2.1.length cap,.int .i64 n.2.2.2.1,.int .i64 n.2.2.2.2.1] 27;have HRT:=Go.Lib.hid (hal.plain (zi5 N) hg (args:=[.v NodT n]) (vals:=[.agg #[.int .i64 n.1,.int .u64 c0,.int .u64 c1,.int .u64 c2,.int .u64 c3,.slice a n.2.2.1.length cap,.int .i64 n.2.2.2.1,.int .i64 n.2.2.2.2.1]]) (zhv ⟨hn,rfl⟩ rfl) hr);have HG:=Go.Lib.hid hg;have HN:=Go.Lib.hid hn;cases r with
 | false =>
   rw[if_pos rfl] at hy;obtain rfl:=Option.some.inj hy;clear hy hr hg hn hal hrd hcs hkids hS HG HN
   go_enter Go.Proofs.Tryd.func7,Go.Proofs.Tryd.ntmps7
   go_wp2_with (go_at_call 12;refine HRT.out.mono ?_;rintro q1 w1 ⟨v1,S1,o1,rfl,hr1,hs1,hw1⟩;have ev1:=VR.bool_inv hr1.1;subst ev1;have HW1:=Go.Lib.hid hw1;clear hr1 hw1 hs1 HRT)
   exact HR.out _ HW1.out.wf
 | true =>
   rw[if_neg (by decide)] at hy;obtain⟨st,hst,hy⟩:=Option.bind_eq_some_iff.1 hy;have HST:=Go.Lib.hid hst;have HY:=Go.Lib.hid hy;clear hst hy hr hg hn hal hrd hcs hkids hS
   go_enter Go.Proofs.Tryd.func7,Go.Proofs.Tryd.ntmps7
   go_upto_region 9 with (first
    | (go_at_call 12;refine HRT.out.mono ?_;rintro q1 w1 ⟨v1,S1,o1,rfl,hr1,hs1,hw1⟩;have ev1:=VR.bool_inv hr1.1;subst ev1;have h4:=z11k hw1;have y8:=h4.eight (.head _);unfold z14u at y8;have HWR:=Go.Lib.hid (zli N HG.out N n false _ _ ([],((0:Int),true)) st _ HN.out h4 HST.out);unfold z14u at HWR;clear hr1 hw1 hs1 HRT h4)
    | (go_at_call 13;refine HWR.out.mono ?_;rintro q5 w5 ⟨rfl,hw5⟩;have hF1:=hw5.getF.1;have HW5:=Go.Lib.hid hw5;clear hw5 HWR y8))
   cases hb:st.2.2 with
   | false =>
     rw[hb] at hF1;have hy2:=HY.out;rw[if_neg (by rw[hb];simp)] at hy2;obtain rfl:=Option.some.inj hy2;clear hb hy2 HY
     go_wp2
     exact HR.out _ HW5.out.wf14
   | true =>
     rw[hb] at hF1;have HLN:=Go.Lib.hid (HW5.out.len N);by_cases hl2:st.1.length<=256
     . have hy2:=HY.out;rw[if_pos ⟨hb,hl2⟩] at hy2;obtain rfl:=Option.some.inj hy2;have hl3:¬ ((256:Int)<(st.1.length:Int)):=by omega
       have HL2:=Go.Lib.hid hl2;clear hb hy2 HY hl2
       go_wp2_with (first
        | (go_at_call 15;refine HLN.out.mono ?_;rintro q6 w6 ⟨rfl,hw6⟩;have HSR:=Go.Lib.hid (zz4 hw6 HL2.out);clear HLN hw6)
        | (go_at_call 19;refine HSR.out.mono ?_;rintro q7 w7 ⟨rfl,hw7⟩;have HW7:=Go.Lib.hid hw7;clear HSR hw7))
       exact HR.out _ HW7.out
     . have hy2:=HY.out;rw[if_neg (fun h=>hl2 h.2)] at hy2;obtain rfl:=Option.some.inj hy2;have hl3:(256:Int)<(st.1.length:Int):=by omega
       clear hb hy2 HY hl2
       go_wp2_with (go_at_call 15;refine HLN.out.mono ?_;rintro q6 w6 ⟨rfl,hw6⟩;have HW6:=Go.Lib.hid hw6;clear HLN hw6)
       exact HR.out _ HW6.out.wf14
theorem z110 (h S:Hp)(x:List UInt8)(c:Bool):ARel h S (fun _=>undef) (.tup [⟨.str,x⟩,⟨.bool,c⟩]) (.tuple #[.string ⟨⟨x⟩⟩,.bool c]) [] :=
 ⟨rfl,_,rfl,.cons VR.str (.cons VR.bool .nil)⟩
theorem zgj (N:Nat):Contract Go.Proofs.Tryd.prog glob 7 (zb1 N):=by
 refine Contract.hand ⟨_,Go.Proofs.Tryd.func7,by kernel_rfl,by decide⟩ ?_;rintro w S vals ob ⟨n,⟨⟩⟩ y har hS hg hy;obtain⟨x,e,⟨⟩⟩:=y;obtain⟨⟨u1,e1,r1⟩,_⟩:=har.rel 0 _ rfl;have hob:∀ i,ob i=[]:=by
  intro i
  match i with
  | 0=>exact r1.2
  | i+1=>exact har.out _ (by simp[mkS,zax])
 have hvals:vals=[u1]:=by
  match vals,har.len,e1 with
  | [a],_,h1=>simp at h1;rw[h1]
 subst hvals;refine (zuq N hS hg r1.1 hy).mono ?_;rintro q w' ⟨rfl,hg1⟩;refine (zvc hS hg1).ends hob (fun y hy=>?_) (z110 _ _ x e) rfl;have hy:y∈[A.v NodT n]:=hy;rw[List.mem_singleton.1 hy];rfl
end
end Go.Proofs.YthgcpalmjcomlaaDoorLg
set_option linter.all false
set_option maxRecDepth 100000
namespace Go.Proofs.YthgcpalmjcomlaaDoorLg
noncomputable section
open Go Go.Lift
def z1c8:Code:=(Tryd.f5.body).getD .skip
def L_73:List (List Nat×List Nat):=[([0],[1]),([0,1],[3,4]),([0,1,1],[2]),([1,1,1],[2])]
def E_73 (N:Nat):Env:=z25 tys glob [(10,zbi N)] [] [] [] false [] []
theorem z1o1 (N:Nat):EnvOk Tryd.prog (E_73 N):=zg mixed zz (FnsOk.cons (zcq N) (FnsOk.nil)) (ItsOk.nil)
def z49 (N:Nat)(n:DT2):Option Bool :=
 (z29 N n).bind fun y =>
 cond (decide ((300:Int)<y.1))
 (some true)
 (some (decide ((40:Int)<y.2.1)))
def t_73 (N:Nat):Tab Bool:=[]
theorem z19z (N:Nat)(x:z1d [(0,.v TT1)]):z8t (E_73 N) N (t_73 N) L_73 Tryd.f5 (mkS [(0,.v TT1)] 0 x) (z53 (.v .bool) 1)=z49 N x.1:=by kernel_rfl
def zaq (N:Nat):List A->Res:=z17 [(0,.v TT1)] (fun x=>z49 N x.1) (zag (.v .bool) 1)
theorem zi0 (N:Nat):Contract Tryd.prog glob 5 (zaq N) :=
 Contract.of (E:=E_73 N) (H:=t_73 N) (L:=L_73) (N:=N) (body:=z1c8) (K:=(z53 (.v .bool) 1)) (z1o1 N) Tryd.func5 (by kernel_rfl) (by decide) (fun _ hb=>TabOk.nil) (fun x y h=>by rw[z19z];exact h) (z1p (s:=(.v .bool)) (m:=1))
def z1c7:Code:=(Tryd.f6.body).getD .skip
def L_76:List (List Nat×List Nat):=[([0],[]),([0,1],[1,2]),([0,1,1],[2,3,4]),([0,1,1,1],[5,2,3,4,6]),([0,1,1,1,1],[2,3,4,6,7,8]),([0,1,1,1,1,1],[0]),([1,1,1,1,1,1],[0])]
def E_76 (N:Nat):Env:=z25 tys glob [(7,zb1 N),(8,zco N),(11,zb2 N)] [] [] [] false [] []
theorem z1o0 (N:Nat):EnvOk Tryd.prog (E_76 N):=zg mixed zz (FnsOk.cons (zgj N) (FnsOk.cons (zi6 N) (FnsOk.cons (zgl N) (FnsOk.nil)))) (ItsOk.nil)
def z3l (N:Nat):Option Bool :=
 (z69 N ([(40:UInt8),(97:UInt8),(41:UInt8),(40:UInt8),(98:UInt8),(124:UInt8),(99:UInt8),(41:UInt8),(123:UInt8),(48:UInt8),(44:UInt8),(49:UInt8),(125:UInt8)]:List UInt8)).bind fun y =>
 (z5n N y.1).bind fun y1 =>
 (z69 N ([(91:UInt8),(97:UInt8),(45:UInt8),(98:UInt8),(93:UInt8)]:List UInt8)).bind fun y2 =>
 (z5n N y2.1).bind fun y3 =>
 cond (eqD (T.pair (T.int IntKind.i64) (T.pair (T.int IntKind.i64) T.unit)) y.2.1 ((0:Int),((0:Int),())))
 (cond (y1.1 == ([(97:UInt8),(40:UInt8),(98:UInt8),(124:UInt8),(99:UInt8),(41:UInt8),(63:UInt8)]:List UInt8))
 (cond y1.2.1
 (cond (eqD (T.pair (T.int IntKind.i64) (T.pair (T.int IntKind.i64) T.unit)) y2.2.1 ((0:Int),((0:Int),())))
 (cond (y3.1 == ([(91:UInt8),(97:UInt8),(98:UInt8),(93:UInt8)]:List UInt8))
 (cond y3.2.1
 (some ((ze0 ([(92:Int),(46:Int)]:List Int)) == ([(92:UInt8),(46:UInt8)]:List UInt8)))
 (some false))
 (some false))
 (some false))
 (some false))
 (some false))
 (some false)
def t_76 (N:Nat):Tab Bool:=[]
theorem z19y (N:Nat)(x:z1d []):z8t (E_76 N) N (t_76 N) L_76 Tryd.f6 (mkS [] 0 x) (z53 (.v .bool) 0)=z3l N:=by kernel_rfl
def zap (N:Nat):List A->Res:=z17 [] (fun x=>z3l N) (zag (.v .bool) 0)
theorem zhz (N:Nat):Contract Tryd.prog glob 6 (zap N) :=
 Contract.of (E:=E_76 N) (H:=t_76 N) (L:=L_76) (N:=N) (body:=z1c7) (K:=(z53 (.v .bool) 0)) (z1o0 N) Tryd.func6 (by kernel_rfl) (by decide) (fun _ hb=>TabOk.nil) (fun x y h=>by rw[z19y];exact h) (z1p (s:=(.v .bool)) (m:=0))
def zfm:Code:=(Tryd.f3.body).getD .skip
def z1dw:List (List Nat×List Nat):=[([0],[2,3]),([0,0,1],[16,2,3]),([1,0,1],[2,3]),([0,0,1,0,1],[4]),([1,0,1,0,1],[4]),([0,1,1],[3,6,5,2]),([0,1,1,1],[6,5,2,8,7,3]),([0,0,1,1,1,1],[29,5,2,8,7,3]),([1,0,1,1,1,1],[5,2,8,7,3]),(PQ86,[4]),([1,0,1,0,1,1,1,1],[4]),([0,1,1,1,1,1],[10,9,2,8,5,7,3]),(z1du,[48,8,5,7,2,3]),([1,0,1,1,1,1,1,1],[8,5,7,2,3]),([0,0,1,0,1,1,1,1,1,1],[4]),([1,0,1,0,1,1,1,1,1,1],[4]),(z18g,[4]),(z18f,[4])]
def z1d4 (N:Nat):Env:=z25 tys glob [(6,zap N),(5,zaq N),(7,zb1 N),(8,zco N),(9,zbj N)] [] [] [] false [] []
theorem z1nz (N:Nat):EnvOk Tryd.prog (z1d4 N):=zg mixed zz (FnsOk.cons (zhz N) (FnsOk.cons (zi0 N) (FnsOk.cons (zgj N) (FnsOk.cons (zi6 N) (FnsOk.cons (zct N) (FnsOk.nil)))))) (ItsOk.nil)
def z4p (N:Nat)(a:DT2)(b:DT2)(k0:Bool->Option Bool):Option Bool :=
 (z49 N a).bind fun y =>
 cond y
 (k0 true)
 ((z49 N b).bind fun y1 =>
 k0 y1)
def z1l3 (N:Nat)(x:z1d zyw)(K:Ex->List A->Option Bool):Option Bool :=
 z4p N x.1 x.2.1 (fun a2=>(K .normal (mkS [(2,.box TT1),(0,.box TT1),(12,.v .bool)] 46 (x.1,x.2.1,a2,()))))
def z1il (N:Nat):Hd Bool:=fun st K=>(unS zyw 59 (restr [2,3] 0 st)).bind fun x=>z1l3 N x K
def t2_77 (N:Nat):Tab Bool:=[]
theorem z1fh {N:Nat}{c:Ctx}(hb:Base Tryd.prog (z1d4 N) c):zq Tryd.prog c (zd zfm [0,0,1]) (z1il N) :=
 zr (s:=zyw) (m:=59) (g:=z1l3 N) [2,3] (ze hb N (t2_77 N) z1dw zfm TabOk.nil [0,0,1] _ rfl) (fun x K=>by kernel_rfl)
def z4q (N:Nat)(a:DT2)(b:DT2)(k0:Bool->Option Bool)(k1:Option Bool):Option Bool :=
 z4p N a b
 (fun x16=>cond x16
 ((z3l N).bind fun y =>
 k0 y)
 (k1))
def z1lo (N:Nat)(x:z1d zyw)(K:Ex->List A->Option Bool):Option Bool :=
 z4q N x.1 x.2.1 (fun a0=>(K .ret (mkS [(4,.v .bool)] 58 (a0,())))) (K .normal (mkS zyw 59 (x.1,x.2.1,())))
def z1j6 (N:Nat):Hd Bool:=fun st K=>(unS zyw 59 (restr [2,3] 0 st)).bind fun x=>z1lo N x K
def t1_77 (N:Nat):Tab Bool:=[([0,0,1],z1il N)]
theorem z1g2 {N:Nat}{c:Ctx}(hb:Base Tryd.prog (z1d4 N) c):zq Tryd.prog c (zd zfm [0,1]) (z1j6 N) :=
 zr (s:=zyw) (m:=59) (g:=z1lo N) [2,3] (ze hb N (t1_77 N) z1dw zfm (TabOk.cons (z1fh hb) TabOk.nil) [0,1] _ rfl) (fun x K=>by kernel_rfl)
def z4o (N:Nat)(a:DT2)(b:DT2)(s:(List UInt8))(t:(List UInt8))(has:Bool)(n:DT2)(f:(Int×(Int×Unit)))(k0:Bool->Option Bool):Option Bool :=
 cond (f.1 != (0:Int))
 (k0 true)
 ((z1w N n a).bind fun y =>
 k0 (!y))
def z1km (N:Nat)(x:z1d z1do)(K:Ex->List A->Option Bool):Option Bool :=
 z4o N x.1 x.2.1 x.2.2.1 x.2.2.2.1 x.2.2.2.2.1 x.2.2.2.2.2.1 x.2.2.2.2.2.2.1 (fun a5=>(K .normal (mkS [(2,.box TT1),(0,.box TT1),(1,.v .str),(1,.v .str),(0,.v .bool),(39,.v .bool)] 14 (x.1,x.2.1,x.2.2.1,x.2.2.2.1,x.2.2.2.2.1,a5,()))))
def z1i4 (N:Nat):Hd Bool:=fun st K=>(unS z1do 52 (restr [10,9,2,8,5,7,3] 0 st)).bind fun x=>z1km N x K
def t4_77 (N:Nat):Tab Bool:=[]
theorem z1f0 {N:Nat}{c:Ctx}(hb:Base Tryd.prog (z1d4 N) c):zq Tryd.prog c (zd zfm z1du) (z1i4 N) :=
 zr (s:=z1do) (m:=52) (g:=z1km N) [10,9,2,8,5,7,3] (ze hb N (t4_77 N) z1dw zfm TabOk.nil z1du _ rfl) (fun x K=>by kernel_rfl)
def z3h (N:Nat)(a:DT2)(b:DT2)(s:(List UInt8))(t:(List UInt8))(has:Bool)(n:DT2)(f:(Int×(Int×Unit)))(k0:Bool->Option Bool)(k1:Option Bool):Option Bool :=
 z4o N a b s t has n f
 (fun x48=>cond x48
 (k0 false)
 (k1))
def z1ks (N:Nat)(x:z1d z1do)(K:Ex->List A->Option Bool):Option Bool :=
 z3h N x.1 x.2.1 x.2.2.1 x.2.2.2.1 x.2.2.2.2.1 x.2.2.2.2.2.1 x.2.2.2.2.2.2.1 (fun a0=>(K .ret (mkS [(4,.v .bool)] 58 (a0,())))) (K .normal (mkS [(2,.box TT1),(0,.box TT1),(1,.v .str),(1,.v .str),(0,.v .bool)] 54 (x.1,x.2.1,x.2.2.1,x.2.2.2.1,x.2.2.2.2.1,())))
def z1ia (N:Nat):Hd Bool:=fun st K=>(unS z1do 52 (restr [10,9,2,8,5,7,3] 0 st)).bind fun x=>z1ks N x K
def t3_77 (N:Nat):Tab Bool:=[(z1du,z1i4 N)]
theorem z1f6 {N:Nat}{c:Ctx}(hb:Base Tryd.prog (z1d4 N) c):zq Tryd.prog c (zd zfm zyz) (z1ia N) :=
 zr (s:=z1do) (m:=52) (g:=z1ks N) [10,9,2,8,5,7,3] (ze hb N (t3_77 N) z1dw zfm (TabOk.cons (z1f0 hb) TabOk.nil) zyz _ rfl) (fun x K=>by kernel_rfl)
def z1v (N:Nat)(a:DT2)(b:DT2):Option Bool :=
 z4q N a b
 (fun x4=>some x4)
 ((z5n N a).bind fun y =>
 (z5n N b).bind fun y1 =>
 cond (!y.2.1)
 (cond (y.1 == ([]:List UInt8))
 ((z3l N).bind fun y2 =>
 some y2)
 (some false))
 ((z69 N y.1).bind fun y3 =>
 z3h N a b y.1 y1.1 y1.2.1 y3.1 y3.2.1
 (fun x41=>some x41)
 (cond (!y1.2.1)
 ((z3l N).bind fun y4 =>
 some y4)
 ((z1w N a b).bind fun y5 =>
 cond ((y.1 == y1.1) == y5)
 ((z3l N).bind fun y6 =>
 some y6)
 (some false)))))
def t_77 (N:Nat):Tab Bool:=[([0,1],z1j6 N),(zyz,z1ia N)]
theorem z19x (N:Nat)(x:z1d z14n):z8t (z1d4 N) N (t_77 N) z1dw Tryd.f3 (mkS z14n 0 x) (z53 (.v .bool) 2)=z1v N x.1 x.2.1:=by kernel_rfl
def zcu (N:Nat):List A->Res:=z17 z14n (fun x=>z1v N x.1 x.2.1) (zag (.v .bool) 2)
theorem zd8 (N:Nat):Contract Tryd.prog glob 3 (zcu N) :=
 Contract.of (E:=z1d4 N) (H:=t_77 N) (L:=z1dw) (N:=N) (body:=zfm) (K:=(z53 (.v .bool) 2)) (z1nz N) Tryd.func3 (by kernel_rfl) (by decide) (fun _ hb=>(TabOk.cons (z1g2 hb) (TabOk.cons (z1f6 hb) TabOk.nil))) (fun x y h=>by rw[z19x];exact h) (z1p (s:=(.v .bool)) (m:=2))
end
end Go.Proofs.YthgcpalmjcomlaaDoorLg
set_option linter.all false
set_option maxRecDepth 100000
namespace Go.Proofs.YthgcpalmjcomlaaDoorLg
noncomputable section
open Go Go.Lift Go.Proofs.YthgcpalmjcomlaaDoorPx
mutual
def z15:Tree->Nat
 | .mk _ _ ks _ _=>1+z2q ks
def z2q:List Tree->Nat
 | []=>0
 | x::xs=>z15 x+z2q xs
end
mutual
def zjg:Tree->Tree->Bool
 | .mk k st ks lo hi,.mk k' st' ks' lo' hi'=>k == k' && (st == st' && (lo == lo' && (hi == hi' && (ks.length == ks'.length && zm5 ks ks'))))
def zm5:List Tree->List Tree->Bool
 | x::xs,y::ys=>zjg x y && zm5 xs ys
 | _,_=>true
end
mutual
def zz8:Tree->Int
 | .mk _ _ ks _ _=>zut ks 1
def zut:List Tree->Int->Int
 | [],n=>n
 | x::xs,n=>zut xs (IntKind.wrap .i64 (n+zz8 x))
end
mutual
def z17y:Tree->Int
 | .mk _ _ ks _ _=>IntKind.wrap .i64 (z1c0 ks 0+1)
def z1c0:List Tree->Int->Int
 | [],n=>n
 | x::xs,n=>z1c0 xs (cond (decide (n<z17y x)) (z17y x) n)
end
def z2e (x:Tree):Int:=(unN x).1
def zlj (lo hi:Int):Bool:=decide (0<=lo/\lo<=16/\(hi=-1\/(1<=hi/\lo<=hi/\hi<=16)))
def shT (k:Int)(st:List Int)(ks:List Tree)(lo hi:Int):Bool :=
 if k=1 then ks.length == 0 && (lo == 0 && hi == 0)
 else if k=2 then st == [0,0,0,0] && (lo == 0 && (hi == 0 && (ks.length != 1 && !(ks.any fun x=>z2e x == 2))))
 else if k=3 then st == [0,0,0,0] && (lo == 0 && (hi == 0 && (decide (2<=ks.length) && !(ks.any fun x=>z2e x == 3))))
 else if k=4 then st == [0,0,0,0] && (ks.length == 1 && zlj lo hi)
 else false
mutual
def zbd:Tree->Bool
 | .mk k st ks lo hi=>shT k st ks lo hi && zn7 ks
def zn7:List Tree->Bool
 | []=>true
 | x::xs=>zbd x && zn7 xs
end
theorem zkx:∀ x:Tree,0<z15 x
 | .mk ..=>by rw[z15];omega
theorem zee:∀ {ks:List Tree} {x:Tree},x∈ks->z15 x<=z2q ks
 | y::ks,x,h=>by
   rw[z2q];rcases List.mem_cons.1 h with rfl|h
   . omega
   . have:=zee h;omega
theorem z5e:∀ ks:List Tree,ks.length<=z2q ks
 | []=>by simp
 | y::ks=>by have:=z5e ks;have:=zkx y;rw[z2q,List.length_cons];omega
theorem zzc (d:Tree){xs ys:List Tree}{i:Nat}(h:i<xs.length)(h':i<ys.length):zm5 (xs.drop i) (ys.drop i)=(zjg (xs.getD i d) (ys.getD i d) && zm5 (xs.drop (i+1)) (ys.drop (i+1))):=by
 rw[List.drop_eq_getElem_cons h,List.drop_eq_getElem_cons h',zm5,List.getD_eq_getElem?_getD,List.getD_eq_getElem?_getD,List.getElem?_eq_getElem h,List.getElem?_eq_getElem h'];rfl
def dT:Tree:=.mk 0 [] [] 0 0
theorem zs7 {ks:List Tree}(h:z14v ks){i:Nat}(hi:i<ks.length):WfN (ks.getD i dT):=by
 rw[List.getD_eq_getElem?_getD,List.getElem?_eq_getElem hi];exact (zfp ks).1 h _ (List.getElem_mem hi)
theorem zmp {ks:List Tree}{i:Nat}(hi:i<ks.length):ks.getD i dT∈ks:=by
 rw[List.getD_eq_getElem?_getD,List.getElem?_eq_getElem hi];exact List.getElem_mem hi
theorem z11e {xs ys:List Tree} (hl:xs.length=ys.length) (hm:xs.length<=maxLen) (self:NodT.den->NodT.den->Option Bool) (hself:∀ i,i<xs.length->self (unN (xs.getD i dT)) (unN (ys.getD i dT))=some (zjg (xs.getD i dT) (ys.getD i dT))) (n:Nat) (hn:xs.length<n)
 (step:Int->(Int->Option Bool)->Option Bool) (hs:∀ (i:Nat) (r:Int->Option Bool),step (i:Int) r=cond (decide ((i:Int)<(xs.length:Int))) (cond (inR (i:Int) xs.length) (cond (inR (i:Int) ys.length) ((self (unN (xs.getD (Int.toNat (i:Int)) dT)) (unN (ys.getD (Int.toNat (i:Int)) dT))).bind fun y=>cond (!y) (some false) (r (IntKind.wrap .i64 ((i:Int)+1)))) none) none) (some true)) :
 iter step n 0=some (zm5 xs ys):=by
 have key:=zff (step:=step) (fun v=>∃ i:Nat,v=(i:Int)/\i<=xs.length) (fun v=>xs.length - v.toNat) (fun v=>some (zm5 (xs.drop v.toNat) (ys.drop v.toNat))) (by
  rintro v r ⟨i,rfl,hi⟩ hr;rw[hs];rcases Nat.lt_or_ge i xs.length with h|h
  . rw[z2a (decide_eq_true (by omega)),z2a (zb8 h),z2a (zb8 (by omega)),Int.toNat_natCast,hself i h,Option.bind_some,zzc dT h (by omega)];cases hc:zjg (xs.getD i dT) (ys.getD i dT) with
    | false=>rfl
    | true =>
      simp only[Bool.not_true,cond_false,Bool.true_and];have hw:IntKind.wrap .i64 ((i:Int)+1)=((i+1:Nat):Int):=by
       rw[z5u (by unfold I64;unfold maxLen at hm;omega)];omega
      rw[hw,hr _ ⟨i+1,rfl,by omega⟩ (by simp only[Int.toNat_natCast];omega),Int.toNat_natCast]
  . rw[z6o (decide_eq_false (by omega)),Int.toNat_natCast,List.drop_eq_nil_of_le h];rfl)
 have:=key n 0 ⟨0,rfl,by omega⟩ (by simp;omega);simpa using this
theorem z11c {N:Nat}{f:Nat->NodT.den->NodT.den->Option Bool}{ks:List Tree}(hN:z2q ks<N)(hw:z14v ks)
 (ih:∀ a b:Tree,z15 a<N->WfN a->f N (unN a) (unN b)=some (zjg a b)) (ys:List Tree) (i:Nat) (hi:i<ks.length) :
 f N (unN (ks.getD i dT)) (unN (ys.getD i dT))=some (zjg (ks.getD i dT) (ys.getD i dT)) :=
 ih _ _ (Nat.lt_of_le_of_lt (zee (zmp hi)) hN) (zs7 hw hi)
theorem eqD4 (x y:List Int):eqD (T.arr 4 (T.int .u64)) x y=(x == y):=by
 rw[z1by (t:=.arr 4 (.int .u64)) rfl,Bool.eq_iff_iff,decide_eq_true_eq,beq_iff_eq]
theorem zko:∀ (N:Nat) (a b:Tree),z15 a<N->WfN a->z1w N (unN a) (unN b)=some (zjg a b)
 | 0,_,_,h,_=>absurd h (Nat.not_lt_zero _)
 | N+1,.mk k st ks lo hi,.mk k' st' ks' lo' hi',h,hw=>by
   rw[z15] at h;rw[WfN] at hw;have hlen:=z5e ks;show z70 (N+1) (z1w N) _ _=_;rw[zjg];unfold z70 z98 z97 zcs;dsimp only[unN];rw[eqD4];cases h1:k == k'<;>simp only[bne,h1,Bool.not_false,Bool.not_true,cond_true,cond_false,Bool.false_and,Bool.true_and]
   cases h2:st == st'<;>simp only[Bool.not_false,Bool.not_true,cond_true,cond_false,Bool.false_and,Bool.true_and]
   cases h3:lo == lo'<;>simp only[Bool.not_false,Bool.not_true,cond_true,cond_false,Bool.false_and,Bool.true_and]
   cases h4:hi == hi'<;>simp only[Bool.not_false,Bool.not_true,cond_true,cond_false,Bool.false_and,Bool.true_and]
   have h5:((ks.length:Int) == (ks'.length:Int))=(ks.length == ks'.length):=by rw[Bool.eq_iff_iff,beq_iff_eq,beq_iff_eq];omega
   rw[h5];cases h6:ks.length == ks'.length<;>simp only[Bool.not_false,Bool.not_true,cond_true,cond_false,Bool.false_and,Bool.true_and]
   exact z11e (by simpa using h6) hw.2.2.1.1 (z1w N) (fun i hi=>z11c (by omega) hw.2.2.1.2 (fun a b=>zko N a b) ks' i hi) (N+1) (by omega) _ (fun i r=>rfl)
theorem zz9 (d:Tree){xs:List Tree}{i:Nat}(h:i<xs.length)(n:Int):zut (xs.drop i) n=zut (xs.drop (i+1)) (IntKind.wrap .i64 (n+zz8 (xs.getD i d))):=by
 rw[List.drop_eq_getElem_cons h,zut,List.getD_eq_getElem?_getD,List.getElem?_eq_getElem h];rfl
theorem z12h {i len:Nat}(h:i<len)(hm:len<=maxLen):IntKind.wrap .i64 ((i:Int)+1)=((i+1:Nat):Int):=by
 rw[z5u (by unfold I64;unfold maxLen at hm;omega)];omega
theorem z13t (d:Tree){xs:List Tree}{i:Nat}(h:i<xs.length)(n:Int):z1c0 (xs.drop i) n=z1c0 (xs.drop (i+1)) (cond (decide (n<z17y (xs.getD i d))) (z17y (xs.getD i d)) n):=by
 rw[List.drop_eq_getElem_cons h,z1c0,List.getD_eq_getElem?_getD,List.getElem?_eq_getElem h];rfl
theorem zpt:∀ (N:Nat) (a:Tree),z15 a<N->WfN a->z29 N (unN a)=some (zz8 a,z17y a,())
 | 0,_,h,_=>absurd h (Nat.not_lt_zero _)
 | N + 1,.mk k st ks lo hi,h,hw=>by
   rw[z15] at h;rw[WfN] at hw;have hlen:=z5e ks;show z6z (N+1) (z29 N) _=_;rw[zz8,z17y];unfold z6z zcp;have key:=zff (step:=fun (v:(Int×Int×Int)) r=>z6a (N+1) (z29 N) (k,st,ks,lo,hi,()) v.1 v.2.1 v.2.2 (fun all deep i=>(r (all,deep,i))) (fun all deep=>some (all,((IntKind.wrap .i64 (deep+(1:Int))),()))))
    (fun v=>∃ i:Nat,v.2.2=(i:Int)/\i<=ks.length) (fun v=>ks.length - v.2.2.toNat) (fun v=>some (zut (ks.drop v.2.2.toNat) v.1,IntKind.wrap .i64 (z1c0 (ks.drop v.2.2.toNat) v.2.1+1),())) (by
    rintro⟨n,d,v⟩ r ⟨i,rfl,hi⟩ hr;unfold z6a z96;dsimp only;rcases Nat.lt_or_ge i ks.length with h'|h'
    . rw[z2a (decide_eq_true (by omega)),z2a (zb8 h'),Int.toNat_natCast];have e:=zpt N (ks.getD i dT) (by have:=zee (zmp h');omega) (zs7 hw.2.2.1.2 h');have e2:z29 N (unN (ks.getD i (Tree.mk (0:Int) ([]:List Int) ([]:List Tree) (0:Int) (0:Int))))=some (zz8 (ks.getD i dT),z17y (ks.getD i dT),()):=e;rw[e2,Option.bind_some,z12h h' hw.2.2.1.1];dsimp only;rw[hr _ ⟨i+1,rfl,by omega⟩ (by simp only[Int.toNat_natCast];omega),hr _ ⟨i+1,rfl,by omega⟩ (by simp only[Int.toNat_natCast];omega)];simp only[Int.toNat_natCast];rw[zz9 dT h',z13t dT h'];cases decide (d<z17y (ks.getD i dT))<;>rfl
    . rw[z6o (decide_eq_false (by omega)),Int.toNat_natCast,List.drop_eq_nil_of_le h',zut,z1c0])
   have:=key (N+1) (1,0,0) ⟨0,rfl,by omega⟩ (by simp;omega);simp only[Int.toNat_zero,List.drop_zero] at this;exact this
theorem zv0 (N:Nat)(lo hi:Int):zcg N lo hi=some (zlj lo hi):=by
 unfold zcg zdp zdo zlj;simp only[Bool.cond_eq_ite,decide_eq_true_eq,beq_iff_eq,if_true,Bool.false_eq_true,if_false]
 repeat' split
 all_goals first
  | (simp only[Option.some.injEq];rw[eq_comm];first|(apply decide_eq_true;omega)|(apply decide_eq_false;omega)|(rw[Bool.eq_iff_iff,decide_eq_true_eq,decide_eq_true_eq];omega))
  | omega
theorem zte {ks:List Tree} (hm:ks.length<=maxLen) (f:Tree->Option Bool) (e:Bool) (step:Int->(Int->Option Bool)->Option Bool)
 (hs:∀ (i:Nat) (r:Int->Option Bool),i<=ks.length->step (i:Int) r=cond (decide ((i:Int)<(ks.length:Int))) (match f (ks.getD i dT) with
  | some b=>some b
  | none=>r (IntKind.wrap .i64 ((i:Int)+1))) (some e)) (n:Nat) (hn:ks.length<n):iter step n 0=some ((ks.findSome? f).getD e):=by
 have key:=zff (step:=step) (fun v=>∃ i:Nat,v=(i:Int)/\i<=ks.length) (fun v=>ks.length - v.toNat) (fun v=>some (((ks.drop v.toNat).findSome? f).getD e)) (by
  rintro v r ⟨i,rfl,hi⟩ hr;rw[hs i r hi];rcases Nat.lt_or_ge i ks.length with h|h
  . have eg:ks.getD i dT=ks[i]:=by rw[List.getD_eq_getElem?_getD,List.getElem?_eq_getElem h];rfl
    rw[z2a (decide_eq_true (by omega)),Int.toNat_natCast,List.drop_eq_getElem_cons h,List.findSome?_cons,eg];cases hf:f ks[i] with
    | some b=>rfl
    | none =>
      dsimp only;rw[z12h h hm,hr _ ⟨i+1,rfl,by omega⟩ (by simp only[Int.toNat_natCast];omega),Int.toNat_natCast]
  . rw[z6o (decide_eq_false (by omega)),Int.toNat_natCast,List.drop_eq_nil_of_le h];rfl)
 have:=key n 0 ⟨0,rfl,by omega⟩ (by simp;omega);simpa using this
theorem zlx (p:Tree->Bool):∀ ks:List Tree,(ks.findSome? fun x=>cond (p x) (some true) none).getD false=ks.any p
 | []=>rfl
 | x::ks=>by
   rw[List.findSome?_cons,List.any_cons];cases hp:p x with
   | true=>rfl
   | false=>simpa using zlx p ks
theorem zi9:∀ ks:List Tree,(ks.findSome? fun x=>cond (zbd x) none (some false)).getD true=zn7 ks
 | []=>by rw[zn7];rfl
 | x::ks=>by
   rw[List.findSome?_cons,zn7];cases hp:zbd x with
   | true=>simpa using zi9 ks
   | false=>rfl
theorem zse (N:Nat)(k:Int)(st:List Int)(ks:List Tree)(lo hi kind:Int)(hm:ks.length<=maxLen)(hN:ks.length<N):z9b N (k,st,ks,lo,hi,()) kind=some (ks.any fun x=>z2e x == kind):=by
 unfold z9b zgm;rw[<- zlx];refine zte hm (fun x=>cond (z2e x == kind) (some true) none) false _ (fun i r hi=>?_) N hN;unfold zcf;dsimp only;rcases Nat.lt_or_ge i ks.length with h|h
 . rw[z2a (decide_eq_true (by omega)),z2a (decide_eq_true (by omega)),z2a (zb8 h),Int.toNat_natCast];change cond (z2e (ks.getD i dT) == kind) _ _=_;cases z2e (ks.getD i dT) == kind<;>rfl
 . rw[z6o (decide_eq_false (by omega)),z6o (decide_eq_false (by omega))]
theorem z11a (N:Nat)(k:Int)(st:List Int)(ks:List Tree)(lo hi:Int)(hm:ks.length<=maxLen)(hN:ks.length<N):zam N (k,st,ks,lo,hi,())=some (shT k st ks lo hi):=by
 unfold zam zch;dsimp only;rw[zse N k st ks lo hi 2 hm hN,zse N k st ks lo hi 3 hm hN,zv0,eqD4];unfold shT;simp only[Option.bind_some];have e0:((ks.length:Int) == 0)=(ks.length == 0):=by rw[Bool.eq_iff_iff,beq_iff_eq,beq_iff_eq];omega
 have e1:((ks.length:Int) == 1)=(ks.length == 1):=by rw[Bool.eq_iff_iff,beq_iff_eq,beq_iff_eq];omega
 have e2:decide ((2:Int)<=(ks.length:Int))=decide (2<=ks.length):=by rw[Bool.eq_iff_iff,decide_eq_true_eq,decide_eq_true_eq];omega
 simp only[bne,e0,e1,e2];by_cases h1:k=1
 . subst h1;cases lo == 0<;>cases hi == 0<;>cases ks.length == 0<;>rfl
 rw[if_neg h1];by_cases h2:k=2
 . subst h2;cases lo == 0<;>cases hi == 0<;>cases ks.length == 1<;>cases st == [0,0,0,0]<;>rfl
 rw[if_neg h2];by_cases h3:k=3
 . subst h3;cases lo == 0<;>cases hi == 0<;>cases decide (2<=ks.length)<;>cases st == [0,0,0,0]<;>rfl
 rw[if_neg h3];have f1:(k == 1)=false:=by simpa using h1
 have f2:(k == 2)=false:=by simpa using h2
 have f3:(k == 3)=false:=by simpa using h3
 by_cases h4:k=4
 . subst h4;cases lo == 0<;>cases hi == 0<;>cases ks.length == 1<;>cases st == [0,0,0,0]<;>rfl
 have f4:(k == 4)=false:=by simpa using h4
 rw[if_neg h4,f1,f2,f3,f4];cases lo == 0<;>rfl
theorem znf:∀ (N:Nat) (a:Tree),z15 a<N->WfN a->z68 N (unN a)=some (zbd a)
 | 0,_,h,_=>absurd h (Nat.not_lt_zero _)
 | N + 1,.mk k st ks lo hi,h,hw=>by
   rw[z15] at h;rw[WfN] at hw;have hlen:=z5e ks;show zbt (N+1) (z68 N) (k,st,ks,lo,hi,())=_;rw[zbd];unfold zbt zi4;rw[z11a (N+1) k st ks lo hi hw.2.2.1.1 (by omega),Option.bind_some];cases shT k st ks lo hi with
   | false=>rfl
   | true =>
     simp only[Bool.not_true,cond_false,Bool.true_and];rw[<- zi9];refine zte hw.2.2.1.1 (fun x=>cond (zbd x) none (some false)) true _ (fun i r hi=>?_) (N+1) (by omega);unfold zds;dsimp only;rcases Nat.lt_or_ge i ks.length with h'|h'
     . rw[z2a (decide_eq_true (by omega)),z2a (decide_eq_true (by omega)),z2a (zb8 h'),Int.toNat_natCast];have e:z68 N (unN (ks.getD i (Tree.mk (0:Int) ([]:List Int) ([]:List Tree) (0:Int) (0:Int))))=some (zbd (ks.getD i dT)):=znf N (ks.getD i dT) (by have:=zee (zmp h');omega) (zs7 hw.2.2.1.2 h');rw[e,Option.bind_some];cases zbd (ks.getD i dT)<;>rfl
     . rw[z6o (decide_eq_false (by omega)),z6o (decide_eq_false (by omega))]
end
end Go.Proofs.YthgcpalmjcomlaaDoorLg
set_option linter.all false
set_option maxRecDepth 100000
namespace Go.Proofs.YthgcpalmjcomlaaDoorLg
noncomputable section
open Go Go.Lift Go.Proofs.YthgcpalmjcomlaaDoorPx
def zzw (x:Tree):List Tree:=(unN x).2.2.1
def zjo (k:Int)(x:Tree):List Tree:=cond (z2e x == k) (zzw x) [x]
def zau (k:Int)(ps:List Tree):List Tree:=ps.flatMap (zjo k)
def zd1 (k:Int)(ps:List Tree):Tree:=match zau k ps with
 | [x]=>x
 | kids=>.mk k [0,0,0,0] kids 0 0
theorem zqf (k:Int){ps:List Tree}{i:Nat}(h:i<ps.length):zau k (ps.drop i)=zjo k (ps.getD i dT)++zau k (ps.drop (i+1)):=by
 rw[List.drop_eq_getElem_cons h,List.getD_eq_getElem?_getD,List.getElem?_eq_getElem h];rfl
theorem zt4 (l:List Tree):(l.map unN).map foN=l:=by
 rw[List.map_map]
 conv=>rhs;rw[<- List.map_id l]
 exact List.map_congr_left fun x _=>z13a x
theorem z1bq (N:Nat) (k:Int) (ps:List Tree) (hm:ps.length<=maxLen) (hN:ps.length<N) (hb:(zau k ps).length*80<=70368744177664):z7m N k ps=some (unN (zd1 k ps)):=by
 unfold z7m zjm;have key:∀ (x4:NodT.den) (k0:List NodT.den->Option NodT.den),iter (fun (v:(List NodT.den×Int)) r=>z9t N k x4 ps (ps.length:Int) v.1 v.2 (fun kids x10=>(r (kids,x10))) k0) N ([],0)=k0 ((zau k ps).map unN):=by
  intro x4 k0;have:=zff (step:=fun (v:(List NodT.den×Int)) r=>z9t N k x4 ps (ps.length:Int) v.1 v.2 (fun kids x10=>(r (kids,x10))) k0)
   (fun v=>∃ i:Nat,v.2=(i:Int)/\i<=ps.length/\(v.1.length+(zau k (ps.drop i)).length)*80<=70368744177664) (fun v=>ps.length - v.2.toNat) (fun v=>k0 (v.1++(zau k (ps.drop v.2.toNat)).map unN)) (by
   rintro⟨acc,v⟩ r ⟨i,rfl,hi,hbi⟩ hr;unfold z9t;dsimp only at hbi ⊢;rcases Nat.lt_or_ge i ps.length with h|h
   . have ht:decide ((i:Int)<(ps.length:Int))=true:=decide_eq_true (by omega);rw[z2a ht,z2a (zb8 h),Int.toNat_natCast,z12h h hm];rw[zqf k h,List.length_append] at hbi;rw[zqf k h,List.map_append,<- List.append_assoc];change cond (z2e (ps.getD i dT) == k) (cond (decide (((acc.length+(List.map unN (zzw (ps.getD i dT))).length)*80)<=70368744177664)) (r (acc++List.map unN (zzw (ps.getD i dT)),((i+1:Nat):Int))) none) (cond (decide (((acc.length+1)*80)<=70368744177664)) (r (acc++[unN (ps.getD i dT)],((i+1:Nat):Int))) none)=_;unfold zjo at hbi ⊢;cases hk:z2e (ps.getD i dT) == k with
     | true =>
       rw[hk] at hbi;simp only[cond_true] at hbi ⊢;rw[z2a (decide_eq_true (by rw[List.length_map];omega)),hr _ ⟨i+1,rfl,by omega,by simp only[List.length_append,List.length_map];omega⟩ (by simp only[Int.toNat_natCast];omega)];simp only[Int.toNat_natCast]
     | false =>
       rw[hk] at hbi;simp only[cond_false,List.length_singleton] at hbi ⊢;rw[z2a (decide_eq_true (by omega)),hr _ ⟨i+1,rfl,by omega,by simp only[List.length_append,List.length_singleton];omega⟩ (by simp only[Int.toNat_natCast];omega)];simp only[Int.toNat_natCast,List.map_cons,List.map_nil]
   . have ht:decide ((i:Int)<(ps.length:Int))=false:=decide_eq_false (by omega);rw[z6o ht,Int.toNat_natCast,List.drop_eq_nil_of_le h];simp[zau])
  have:=this N ([],0) ⟨0,rfl,by omega,by simpa using hb⟩ (by simp;omega);simpa using this
 refine (key _ _).trans ?_;unfold zd1;cases hf:zau k ps with
 | nil=>rfl
 | cons x xs =>
   cases xs with
   | nil=>rfl
   | cons y ys =>
     have h1:(((List.map unN (x::y::ys)).length:Int) == 1)=false:=by
      rw[beq_eq_false_iff_ne];simp only[List.length_map,List.length_cons];omega
     rw[z6o h1,zt4];rfl
end
end Go.Proofs.YthgcpalmjcomlaaDoorLg
