import Derived.Test.YthgcpalmjcomlaaDoorLgPrRa4
import Derived.Test.YthgcpalmjcomlaaDoorLgPrRa5
import Derived.WalkKit
import Derived.Tactics
import Derived.Tactics2
import Derived.Defers
import Derived.Lib.Hide
import Derived.Below
import Derived.WalkSmall
import Derived.LoopN
import Derived.Deep.RegionHeld3
import Derived.Deep.Cut
import Derived.Deep.OwnRows
import Derived.Deep.LoopGhost
import Derived.Deep.Light
import Derived.Deep.CutRange
import Derived.KernelRfl
import Derived.Laws.Rows
import Derived.Test.YthgcpalmjcomlaaDoorLgPn
import Derived.Recover
import Derived.Orders
import Derived.Test.YthgcpalmjcomlaaDoorChecked
import Derived.Test.YthgcpalmjcomlaaDoorLgPrRa1
set_option linter.all false
set_option maxRecDepth 100000
namespace Go.Proofs.YthgcpalmjcomlaaDoorLg
noncomputable section
open Go Go.Lift Go.Proofs
theorem zf7 (S:Hp):GlobOk zd4 S:=fun g d h=>by cases h
abbrev z101:T:=.pair (.self 45) (.pair (.own (.byt 5)) .unit)
def zoz:Tree:=Tree.mk (0:Int) ([]:List Int) ([]:List Tree) (0:Int) (0:Int)
theorem zig {S:Hp}{n:NodT.den}{cs:List Value}(h:Rd S NodT n cs):∃ a cap s0 s1 s2 s3,cs=[.int .i64 n.1,.int .u64 s0,.int .u64 s1,.int .u64 s2,.int .u64 s3,.slice a n.2.2.1.length cap,.int .i64 n.2.2.2.1,.int .i64 n.2.2.2.2.1] ∧
 VR S (.sl .nod) n.2.2.1 (.slice a n.2.2.1.length cap):=by
 obtain⟨c1,c2,e,h1,c3,c4,e2,⟨hl,h3⟩,c5,c6,e3,⟨a,cap,h5,hc,hk⟩,c7,c8,e4,h7,c9,c10,e5,h9,h10⟩:=h;have h1:c1=[.int .i64 n.1]:=h1;have h7:c7=[.int .i64 n.2.2.2.1]:=h7;have h9:c9=[.int .i64 n.2.2.2.2.1]:=h9;have h10:c10=[]:=h10;have h5:c5=[.slice a n.2.2.1.length cap]:=h5;have h3:=(zh1 _ _).1 h3;obtain⟨s0,s1,s2,s3,hs⟩:∃ s0 s1 s2 s3,n.2.1=[s0,s1,s2,s3]:=by
  have hl':n.2.1.length=4:=hl
  match h:n.2.1,hl' with
  | [a,b,c,d],_=>exact⟨a,b,c,d,rfl⟩
 refine⟨a,cap,s0,s1,s2,s3,?_,⟨a,cap,rfl,hc,hk⟩⟩;rw[e,h1,e2,h3,e3,h5,e4,h7,e5,h9,h10,hs];rfl
theorem zsm {S:Hp}:∀ (ts:List Tree) (cs:List Value),All (RdN S) ts cs->∀ i,i<ts.length->∃ a cap s0 s1 s2 s3,
 Rd S NodT (unN (ts.getD i zoz)) [.int .i64 (unN (ts.getD i zoz)).1,.int .u64 s0,.int .u64 s1,.int .u64 s2,.int .u64 s3,.slice a (unN (ts.getD i zoz)).2.2.1.length cap,.int .i64 (unN (ts.getD i zoz)).2.2.2.1,.int .i64 (unN (ts.getD i zoz)).2.2.2.2.1] ∧
 cs[i*8]?=some (.int .i64 (unN (ts.getD i zoz)).1)/\cs[i*8+1]?=some (.int .u64 s0)/\cs[i*8+2]?=some (.int .u64 s1)/\cs[i*8+3]?=some (.int .u64 s2)/\cs[i*8+4]?=some (.int .u64 s3) ∧
 cs[i*8+5]?=some (.slice a (unN (ts.getD i zoz)).2.2.1.length cap)/\cs[i*8+6]?=some (.int .i64 (unN (ts.getD i zoz)).2.2.2.1)/\cs[i*8+7]?=some (.int .i64 (unN (ts.getD i zoz)).2.2.2.2.1)
 | [],_,_,i,hi=>by cases hi
 | t :: ts,cs,h,i,hi=>by
   obtain⟨c1,c2,rfl,h1,h2⟩:=h;have h1':=(zu2 t c1).1 h1;obtain⟨a,cap,s0,s1,s2,s3,rfl,hk⟩:=zig h1';cases i with
   | zero=>exact⟨a,cap,s0,s1,s2,s3,by simpa using h1',by simp,by simp,by simp,by simp,by simp,by simp,by simp,by simp⟩
   | succ i =>
     obtain⟨a',cap',r0,r1,r2,r3,g0,g1,g2,g3,g4,g5,g6,g7,g8⟩:=zsm ts c2 h2 i (by simpa using hi);have sh:∀ k,([Value.int .i64 (unN t).1,.int .u64 s0,.int .u64 s1,.int .u64 s2,.int .u64 s3,.slice a (unN t).2.2.1.length cap,.int .i64 (unN t).2.2.2.1,.int .i64 (unN t).2.2.2.2.1]++c2)[(i+1)*8+k]?=c2[i*8+k]?:=fun k=>by
      rw[List.getElem?_append_right (by simp;omega)];congr 1;simp;omega
     refine⟨a',cap',r0,r1,r2,r3,by simpa using g0,?_,?_,?_,?_,?_,?_,?_,?_⟩
     . rw[show (i+1)*8=(i+1)*8+0 by omega,sh 0];simpa using g1
     all_goals (rw[sh];simpa using (by assumption))
theorem zzc {S:Hp} {ts:List Tree} {a:Option Addr} {cap:Nat} (h:VR S (.sl .nod) ts (.slice a ts.length cap)) (hn:0<ts.length):∃ b off,a=some ⟨b,off,none⟩/\∀ i,i<ts.length->∃ a cap s0 s1 s2 s3,
 VR S NodT (unN (ts.getD i zoz)) (.agg #[.int .i64 (unN (ts.getD i zoz)).1,.int .u64 s0,.int .u64 s1,.int .u64 s2,.int .u64 s3,.slice a (unN (ts.getD i zoz)).2.2.1.length cap,.int .i64 (unN (ts.getD i zoz)).2.2.2.1,.int .i64 (unN (ts.getD i zoz)).2.2.2.2.1]) ∧
 ∀ w:World,Lift.Sub S (hp w)->w.cell? ⟨b,off+i*8,none⟩=some (.int .i64 (unN (ts.getD i zoz)).1)/\w.cell? ⟨b,off+i*8+1,none⟩=some (.int .u64 s0)/\w.cell? ⟨b,off+i*8+2,none⟩=some (.int .u64 s1)/\w.cell? ⟨b,off+i*8+3,none⟩=some (.int .u64 s2)/\w.cell? ⟨b,off+i*8+4,none⟩=some (.int .u64 s3) ∧
   w.cell? ⟨b,off+i*8+5,none⟩=some (.slice a (unN (ts.getD i zoz)).2.2.1.length cap)/\w.cell? ⟨b,off+i*8+6,none⟩=some (.int .i64 (unN (ts.getD i zoz)).2.2.2.1)/\w.cell? ⟨b,off+i*8+7,none⟩=some (.int .i64 (unN (ts.getD i zoz)).2.2.2.2.1):=by
 have h':Rd S (.sl .nod) ts [.slice a ts.length cap]:=h;obtain⟨a',cap',e,hcap,h1⟩:=h';cases e;rcases h1 with rfl|⟨b,off,c1,rfl,hl,ha⟩
 . cases hn
 . refine⟨b,off,rfl,fun i hi=>?_⟩;obtain⟨a',cap',s0,s1,s2,s3,g0,g1,g2,g3,g4,g5,g6,g7,g8⟩:=zsm ts c1 ha i hi;refine⟨a',cap',s0,s1,s2,s3,⟨_,rfl,by simpa using g0⟩,fun w hw=>?_⟩;have at':∀ j u,c1[j]?=some u->w.cell? ⟨b,off+j,none⟩=some u:=fun j u hu=>by
    obtain⟨all,E,fr,c0,c2,q1,q2,q3⟩:=hl;have q4:=hw _ _ q1;have hb:w.heap[b]?=some (.cells all E fr):=q4;have:all[off+j]?=some u:=by
     rw[<- Array.getElem?_toList,q2,List.getElem?_append_right (by omega),q3,show off+j - off=j by omega,List.getElem?_append_left (List.getElem?_eq_some_iff.1 hu).1];exact hu
    simp[World.cell?,hb,this]
   simp only[Nat.add_assoc];exact⟨at' _ _ g1,at' _ _ g2,at' _ _ g3,at' _ _ g4,at' _ _ g5,at' _ _ g6,at' _ _ g7,at' _ _ g8⟩
section
variable {w0 w:World} {S0:Hp} {ob0:List Nat} {bf:Nat} {t:T} {x:t.den} {L:List (Nat×Array Value×Nat)}
theorem BSt.data14 {glob:Nat->Option Dat}{P:Program}{f:FuncId}{g:List A->Res}(ct:Contract P glob f g)(hg:GlobOk glob S0)(h:BSt t w0 S0 ob0 bf w x L){args:List A}{vals:List Value}
 (hrel:∀ S,Lift.Sub S0 S->Lift.Sub S (hp w)->ArgsRel (hp w) S args vals (fun _=>[])) {y:(g args).X} (hy:(g args).val=some y) :
 Calls P f vals.toArray w fun e w'=>∃ v S' o',e=.returned v/\ARel (hp w') S' (fun _=>undef) ((g args).out y).1 v o'/\BSt t w0 S0 ob0 bf w' x L:=by
 have h':=h;obtain⟨S,o,h1,h2,h3,h4,h5,h6,h7,hL⟩:=h';refine ((ct.2 w S args vals _ (hrel S h2 h3) h3 (hg.mono h2) y hy)).mono ?_;rintro e w' ⟨v,S',q,ob',rfl,hwf,hSS,hSw,hnew,⟨hr,_⟩,_⟩;refine⟨v,S',q,rfl,hr,?_⟩;have hwf':WF w (fun _=>False) w':=⟨hwf.size,fun k hk _=>hwf.same k hk (by rintro⟨i,hi⟩;cases hi),hwf.tape,hwf.os,hwf.output⟩
 have hlt:∀ k∈o,k<w.heap.size:=fun k hk=>by
  obtain⟨ob,hob⟩:=h5.obj k hk;exact (Array.getElem?_eq_some_iff.1 hob.1).1
 have hnw:∀ k,k<w.heap.size->S' k≠none->S k≠none:=fun k hk hs=>by
  rcases hnew k hs with h|⟨i,hi⟩|h
  . exact h
  . cases hi
  . omega
 refine⟨S',o,h1.trans hwf' (fun _ h=>h.elim),h2.trans hSS,hSw,fun k hk=>?_,?_,h6,fun k hk=>⟨?_,(h7 k hk).2⟩,fun p hp=>?_⟩
 . rcases hnew k hk with h|⟨i,hi⟩|h
   . exact h4 k h
   . cases hi
   . exact .inr (.inr (Nat.le_trans h1.size h))
 . obtain⟨b,cs,E,fr,bs,rfl,e1,e2,e3,e4⟩:=h5;refine⟨b,cs,E,fr,bs,rfl,e1,?_,e3,e4.mono hSS _ _ _ _ (fun k hk=>hwf'.same k (hlt k (by simp[hk])) (fun h=>h))⟩;have:=hwf'.same b (hlt b (by simp)) (fun h=>h);simp only[hp] at e2 ⊢;rw[this];exact e2
 . cases hs:S' k with
   | none=>rfl
   | some q=>exact absurd (h7 k hk).1 (hnw k (hlt k hk) (by rw[hs];simp))
 . obtain⟨p1,p2,p3,p4⟩:=hL p hp;have hl:=(Array.getElem?_eq_some_iff.1 p4).1;refine⟨?_,p2,p3,?_⟩
   . cases hs:S' p.1 with
     | none=>rfl
     | some q=>exact absurd p1 (hnw _ hl (by rw[hs];simp))
   . rw[hwf'.same p.1 hl (fun h=>h)];exact p4
end
theorem zhk {w:World}{S:Hp}{a:A}{v:Value}(h:ARel (hp w) S (fun _=>undef) a v [])(hr:a.refs=[]):ArgsRel (hp w) S [a] [v] (fun _=>[]):=by
 refine⟨rfl,fun i y hy=>?_,fun _ _=>rfl,(fun i j b hb=>by cases hb),fun _=>.nil,(fun i b hb=>by cases hb)⟩;cases i with
 | zero=>simp at hy;subst hy;exact⟨⟨v,rfl,h⟩,hr⟩
 | succ i=>simp at hy
theorem zzv {w:World}{S:Hp}{a b:A}{u v:Value}(h:ARel (hp w) S (fun _=>undef) a u [])(hr:a.refs=[])(h2:ARel (hp w) S (fun _=>undef) b v [])(hr2:b.refs=[]):ArgsRel (hp w) S [a,b] [u,v] (fun _=>[]):=by
 refine⟨rfl,fun i y hy=>?_,fun _ _=>rfl,(fun i j b hb=>by cases hb),fun _=>.nil,(fun i b hb=>by cases hb)⟩
 match i with
 | 0=>simp at hy;subst hy;exact⟨⟨u,rfl,h⟩,hr⟩
 | 1=>simp at hy;subst hy;exact⟨⟨v,rfl,h2⟩,hr2⟩
 | i+2=>simp at hy
theorem zo8 {w:World}{S:Hp}:ArgsRel (hp w) S [] [] (fun _=>[]):=⟨rfl,(fun i y hy=>by simp at hy),fun _ _=>rfl,(fun i j b hb=>by cases hb),fun _=>.nil,(fun i b hb=>by cases hb)⟩
section
variable {w0 w:World} {S0:Hp} {ob0:List Nat} {bf:Nat} {L:List (Nat×Array Value×Nat)} {xs:List UInt8}
theorem z10f (N:Nat)(h:BSt z101 w0 S0 ob0 bf w ((),(z3j xs,())) L)(b:UInt8){c:Int}(hc:c=(b.toNat:Int))(hl:xs.length+1<=70368744177664) :
 Calls Go.Proofs.Tryd.prog 14 #[.pointer (some ⟨bf,0,none⟩),.int .u8 c] w fun q w'=>(∃ v,q=.returned v)/\BSt z101 w0 S0 ob0 bf w' ((),(z3j (xs++[b]),())) L:=by
 subst hc;have hy:z3k N ((),(z3j xs,())) ((b.toNat:Nat):Int)=some (Go.Value.nilIface,(((),(z3j (xs++[b]),())),())):=by
  rw[z3k];rw[show decide _=true from decide_eq_true (by simp[z3j];omega)];simp[z3j]
 refine (BSt.boxed (zbg N) zf7 h (args:=[.v (.int .u8) ((b.toNat:Nat):Int)]) (vals:=[.int .u8 ((b.toNat:Nat):Int)]) (fun S hS=>zhk ⟨VR.int,rfl⟩ rfl) hy rfl).mono ?_;rintro e w' ⟨v,S',o',rfl,_,hb⟩;exact⟨⟨v,rfl⟩,hb⟩
theorem z109 (N:Nat)(h:BSt z101 w0 S0 ob0 bf w ((),(z3j xs,())) L)(s:List UInt8)(hl:xs.length+s.length<=70368744177664) :
 Calls Go.Proofs.Tryd.prog 17 #[.pointer (some ⟨bf,0,none⟩),.string ⟨⟨s⟩⟩] w fun q w'=>(∃ v,q=.returned v)/\BSt z101 w0 S0 ob0 bf w' ((),(z3j (xs++s),())) L:=by
 have hy:z19 N ((),(z3j xs,())) s=some (((((s.length:Nat):Int)),(Go.Value.nilIface,())),(((),(z3j (xs++s),())),())):=by
  unfold z19;rw[show decide _=true from decide_eq_true (by simp[z3j];omega)];simp[z3j]
 refine (BSt.boxed (z5g N) zf7 h (args:=[.v .str s]) (vals:=[.string ⟨⟨s⟩⟩]) (fun S hS=>zhk ⟨VR.str,rfl⟩ rfl) hy rfl).mono ?_;rintro e w' ⟨v,S',o',rfl,_,hb⟩;exact⟨⟨v,rfl⟩,hb⟩
theorem z129 (N:Nat)(h:BSt z101 w0 S0 ob0 bf w ((),(z3j xs,())) L) :
 Calls Go.Proofs.Tryd.prog 15 #[.pointer (some ⟨bf,0,none⟩)] w fun q w'=>q=.returned (.int .i64 (xs.length:Int))/\BSt z101 w0 S0 ob0 bf w' ((),(z3j xs,())) L:=by
 have hy:z5r N ((),(z3j xs,()))=some ((xs.length:Int),(((),(z3j xs,())),())):=by
  rw[z5r];simp[z3j]
 refine (BSt.boxed (zft N) zf7 h (args:=[]) (vals:=[]) (fun S hS=>zo8) hy rfl).mono ?_;rintro e w' ⟨v,S',o',rfl,hr,hb⟩;exact⟨by rw[VR.int_inv hr.1],hb⟩
theorem zzn (N:Nat)(hg:GlobOk glob S0)(h:BSt z101 w0 S0 ob0 bf w ((),(z3j xs,())) L){n k:NodT.den}{u v:Value}(hu:VR S0 NodT n u)(hv:VR S0 NodT k v){r:Bool}(hy:z27 N n k=some r) :
 Calls Go.Proofs.Tryd.prog 16 #[u,v] w fun q w'=>q=.returned (.bool r)/\BSt z101 w0 S0 ob0 bf w' ((),(z3j xs,())) L:=by
 refine (BSt.data14 (zic N) hg h (args:=[.v NodT n,.v NodT k]) (vals:=[u,v]) (fun S h1 hS=>zzv ⟨hu.mono h1,rfl⟩ rfl ⟨hv.mono h1,rfl⟩ rfl) hy).mono ?_;rintro e w' ⟨v,S',o',rfl,hr,hb⟩;exact⟨by rw[VR.bool_inv hr.1],hb⟩
theorem zzl (N:Nat)(hg:GlobOk glob S0)(h:BSt z101 w0 S0 ob0 bf w ((),(z3j xs,())) L){n:NodT.den}{u:Value}(hu:VR S0 NodT n u){r:List UInt8}(hy:z70 N n=some r) :
 Calls Go.Proofs.Tryd.prog 18 #[u] w fun q w'=>q=.returned (.string ⟨⟨r⟩⟩)/\BSt z101 w0 S0 ob0 bf w' ((),(z3j xs,())) L:=by
 refine (BSt.data14 (zoi N) hg h (args:=[.v NodT n]) (vals:=[u]) (fun S h1 hS=>zhk ⟨hu.mono h1,rfl⟩ rfl) hy).mono ?_;rintro e w' ⟨v,S',o',rfl,hr,hb⟩;exact⟨by rw[VR.str_inv hr.1],hb⟩
end
abbrev ziy:=List UInt8×(Int×Bool)
def zc0 (o:List UInt8)(m:Nat):Bool:=decide (o.length+m<=70368744177664)
def zzu (n:NodT.den)(i:Nat)(st:ziy):Option ziy:=if n.1=3/\0<i then (if zc0 st.1 1=true then some (st.1++[124],st.2) else none) else some st
def z9o (N:Nat) (self:NodT.den->Bool->ziy->Option ziy) (n:NodT.den):Nat->List Tree->ziy->Option (ziy×Bool)
 | _,[],st=>some (st,true)
 | i,x::xs,st=>if st.2.2=false then some (st,false) else
   (zzu n i st).bind fun s1=>(z27 N n (unN x)).bind fun e=>(self (unN x) e s1).bind fun s2=>z9o N self n (i+1) xs s2
def z1gz (enc:Bool)(st:ziy):Option ziy:=if enc=true then (if zc0 st.1 1=true then some (st.1++[40],(Go.RowKit.wrap64 (st.2.1+1),st.2.2)) else none) else some st
def znp (st:ziy):ziy:=(st.1,(st.2.1,st.2.2 && (decide (st.1.length<=256) && decide (st.2.1<=16))))
def z156 (N:Nat)(n:NodT.den)(enc:Bool)(st:ziy):Option ziy :=
 (z70 N n).bind fun e=>if zc0 st.1 (e.length+1)=true then some (if enc=true then (st.1++e++[41],(Go.RowKit.wrap64 (st.2.1 - 1),st.2.2)) else (st.1++e,st.2)) else none
def zod (N:Nat):Nat->NodT.den->Bool->ziy->Option ziy
 | 0=>fun _ _ _=>none
 | h + 1=>fun n enc st=>if decide (n.2.2.1.length<=9223372036854775807)=true then
     (z1gz enc st).bind fun s1=>(z9o N (zod N h) n 0 n.2.2.1 (znp s1)).bind fun q=>if q.2=false then some q.1 else z156 N n enc q.1
   else none
def z14a (B O F W:Nat):Value:=.func (.func 13) #[] #[.pointer (some ⟨B,0,none⟩),.pointer (some ⟨O,0,none⟩),.pointer (some ⟨F,0,none⟩),.pointer (some ⟨W,0,none⟩)]
def RSt (w0:World)(S0:Hp)(B O F W:Nat)(st:ziy)(X:List (Nat×Array Value×Nat))(w:World):Prop :=
 BSt z101 w0 S0 [] B w ((),(z3j st.1,())) ((O,#[.int .i64 st.2.1],3)::(F,#[.bool st.2.2],4)::(W,#[z14a B O F W],46)::X)/\O≠F/\O≠W/\F≠W/\(∀ p∈X,p.1≠O/\p.1≠F/\p.1≠W)
section
variable {w0 w:World} {S0:Hp} {B O F W:Nat} {st:ziy} {X:List (Nat×Array Value×Nat)}
theorem RSt.getO (h:RSt w0 S0 B O F W st X w):w.cell? ⟨O,0,none⟩=some (.int .i64 st.2.1)/\w.frozen? ⟨O,0,none⟩=false:=⟨h.1.cell (.head _) rfl,h.1.free (.head _)⟩
theorem RSt.getF (h:RSt w0 S0 B O F W st X w):w.cell? ⟨F,0,none⟩=some (.bool st.2.2)/\w.frozen? ⟨F,0,none⟩=false:=⟨h.1.cell (.tail _ (.head _)) rfl,h.1.free (.tail _ (.head _))⟩
theorem RSt.getW (h:RSt w0 S0 B O F W st X w):w.cell? ⟨W,0,none⟩=some (z14a B O F W):=h.1.cell (.tail _ (.tail _ (.head _))) rfl
theorem RSt.setO (h:RSt w0 S0 B O F W st X w)(k:Int):RSt w0 S0 B O F W (st.1,(k,st.2.2)) X (w.setCell ⟨O,0,none⟩ (.int .i64 k)):=by
 refine⟨h.1.setCell ?_ 0 _,h.2⟩;intro q hq;rcases List.mem_cons.1 hq with rfl|hq
 . exact fun e=>h.2.1 e.symm
 . rcases List.mem_cons.1 hq with rfl|hq
   . exact fun e=>h.2.2.1 e.symm
   . exact (h.2.2.2.2 q hq).1
theorem RSt.setF (h:RSt w0 S0 B O F W st X w)(f:Bool):RSt w0 S0 B O F W (st.1,(st.2.1,f)) X (w.setCell ⟨F,0,none⟩ (.bool f)):=by
 have h1:BSt z101 w0 S0 [] B w ((),(z3j st.1,())) ((F,#[.bool st.2.2],4)::(O,#[.int .i64 st.2.1],3)::(W,#[z14a B O F W],46)::X):=h.1.swap (fun p hp=>by
  simp only[List.mem_cons] at hp ⊢;rcases hp with h|h|h|h
  . exact .inr (.inl h)
  . exact .inl h
  . exact .inr (.inr (.inl h))
  . exact .inr (.inr (.inr h)))
 refine⟨(h1.setCell ?_ 0 (.bool f)).swap (fun p hp=>by
  simp only[List.mem_cons] at hp ⊢;rcases hp with h|h|h|h
  . exact .inr (.inl h)
  . exact .inl h
  . exact .inr (.inr (.inl h))
  . exact .inr (.inr (.inr h))),h.2⟩
 intro q hq;rcases List.mem_cons.1 hq with rfl|hq
 . exact fun e=>h.2.1 e
 . rcases List.mem_cons.1 hq with rfl|hq
   . exact fun e=>h.2.2.2.1 e.symm
   . exact (h.2.2.2.2 q hq).2.1
theorem RSt.drop (h:RSt w0 S0 B O F W st X w){Y:List (Nat×Array Value×Nat)}(hY:∀ p∈Y,p∈X):RSt w0 S0 B O F W st Y w:=by
 refine⟨h.1.swap (fun p hp=>?_),h.2.1,h.2.2.1,h.2.2.2.1,fun p hp=>h.2.2.2.2 p (hY p hp)⟩;simp only[List.mem_cons] at hp ⊢;rcases hp with h|h|h|h
 . exact .inl h
 . exact .inr (.inl h)
 . exact .inr (.inr (.inl h))
 . exact .inr (.inr (.inr (hY p h)))
theorem RSt.alloc (h:RSt w0 S0 B O F W st X w)(cs:Array Value)(E:Nat):RSt w0 S0 B O F W st ((w.heap.size,cs,E)::X) (w.alloc (.cells cs E)):=by
 have hl:=h.1.lt;have lO:=hl _ (.head _);have lF:=hl _ (.tail _ (.head _));have lW:=hl _ (.tail _ (.tail _ (.head _)));simp only at lO lF lW;refine⟨(h.1.alloc cs E).swap (fun p hp=>?_),h.2.1,h.2.2.1,h.2.2.2.1,fun p hp=>?_⟩
 . simp only[List.mem_cons] at hp ⊢;rcases hp with h|h|h|h|h
   . exact .inr (.inl h)
   . exact .inr (.inr (.inl h))
   . exact .inr (.inr (.inr (.inl h)))
   . exact .inl h
   . exact .inr (.inr (.inr (.inr h)))
 . rcases List.mem_cons.1 hp with rfl|hp
   . exact⟨by simp only;omega,by simp only;omega,by simp only;omega⟩
   . exact h.2.2.2.2 p hp
theorem RSt.drew (h:RSt w0 S0 B O F W st X w):RSt w0 S0 B O F W st X w.drew:=⟨h.1.drew,h.2⟩
theorem RSt.own (h:RSt w0 S0 B O F W st X w){p:Nat}{cs:Array Value}{E i:Nat}{v:Value}(hm:(p,cs,E)∈X)(hi:cs[i]?=some v):w.cell? ⟨p,i,none⟩=some v:=h.1.cell (.tail _ (.tail _ (.tail _ hm))) hi
theorem RSt.sub (h:RSt w0 S0 B O F W st X w):Lift.Sub S0 (hp w):=by
 obtain⟨⟨S,o,h1,h2,h3,_⟩,_⟩:=h;exact fun k q hk=>h3 k q (h2 k q hk)
theorem RSt.byte (N:Nat)(h:RSt w0 S0 B O F W st X w)(b:UInt8){c:Int}(hc:c=(b.toNat:Int))(hl:zc0 st.1 1=true) :
 Calls Go.Proofs.Tryd.prog 14 #[.pointer (some ⟨B,0,none⟩),.int .u8 c] w fun q w'=>(∃ v,q=.returned v)/\RSt w0 S0 B O F W (st.1++[b],st.2) X w' :=
 (z10f N h.1 b hc (of_decide_eq_true hl)).mono fun q w' ⟨h1,h2⟩=>⟨h1,h2,h.2⟩
theorem RSt.text (N:Nat)(h:RSt w0 S0 B O F W st X w)(s:List UInt8)(hl:zc0 st.1 (s.length+1)=true) :
 Calls Go.Proofs.Tryd.prog 17 #[.pointer (some ⟨B,0,none⟩),.string ⟨⟨s⟩⟩] w fun q w'=>(∃ v,q=.returned v)/\RSt w0 S0 B O F W (st.1++s,st.2) X w' :=
 (z109 N h.1 s (by have:=of_decide_eq_true hl;omega)).mono fun q w' ⟨h1,h2⟩=>⟨h1,h2,h.2⟩
theorem RSt.len (N:Nat)(h:RSt w0 S0 B O F W st X w) :
 Calls Go.Proofs.Tryd.prog 15 #[.pointer (some ⟨B,0,none⟩)] w fun q w'=>q=.returned (.int .i64 (st.1.length:Int))/\RSt w0 S0 B O F W st X w' :=
 (z129 N h.1).mono fun q w' ⟨h1,h2⟩=>⟨h1,h2,h.2⟩
theorem RSt.enc (N:Nat)(hg:GlobOk glob S0)(h:RSt w0 S0 B O F W st X w){n k:NodT.den}{u v:Value}(hu:VR S0 NodT n u)(hv:VR S0 NodT k v){r:Bool}(hy:z27 N n k=some r) :
 Calls Go.Proofs.Tryd.prog 16 #[u,v] w fun q w'=>q=.returned (.bool r)/\RSt w0 S0 B O F W st X w' :=
 (zzn N hg h.1 hu hv hy).mono fun q w' ⟨h1,h2⟩=>⟨h1,h2,h.2⟩
theorem RSt.end (N:Nat)(hg:GlobOk glob S0)(h:RSt w0 S0 B O F W st X w){n:NodT.den}{u:Value}(hu:VR S0 NodT n u){r:List UInt8}(hy:z70 N n=some r) :
 Calls Go.Proofs.Tryd.prog 18 #[u] w fun q w'=>q=.returned (.string ⟨⟨r⟩⟩)/\RSt w0 S0 B O F W st X w' :=
 (zzl N hg h.1 hu hy).mono fun q w' ⟨h1,h2⟩=>⟨h1,h2,h.2⟩
end
theorem zt0 (N:Nat){self:NodT.den->Bool->ziy->Option ziy}{n:NodT.den}{i:Nat}{x:Tree}{xs:List Tree}{st:ziy}{q:ziy×Bool}(h:z9o N self n i (x::xs) st=some q) :
 (st.2.2=false/\q=(st,false))\/(st.2.2=true/\∃ s1 e s2,zzu n i st=some s1/\z27 N n (unN x)=some e/\self (unN x) e s1=some s2/\z9o N self n (i+1) xs s2=some q):=by
 rw[z9o] at h;cases hf:st.2.2 with
 | false=>rw[if_pos hf] at h;exact .inl ⟨rfl,(Option.some.inj h).symm⟩
 | true =>
   rw[if_neg (by rw[hf];decide)] at h;obtain⟨s1,h1,h⟩:=Option.bind_eq_some_iff.1 h;obtain⟨e,h2,h⟩:=Option.bind_eq_some_iff.1 h;obtain⟨s2,h3,h⟩:=Option.bind_eq_some_iff.1 h;exact .inr ⟨rfl,s1,e,s2,h1,h2,h3,h⟩
theorem z1m2 {xs:List Tree}{j:Nat}(h:j<xs.length):xs.drop j=xs.getD j zoz::xs.drop (j+1):=by
 rw[List.drop_eq_getElem_cons h,List.getD_eq_getElem?_getD,List.getElem?_eq_getElem h];rfl
theorem z1de {j:Nat}(h:j<9223372036854775807):IntKind.i64.wrap ((j:Int)+1)=(j:Int)+1:=by
 have h1:((j:Int)+1+9223372036854775808) % 18446744073709551616=(j:Int)+1+9223372036854775808:=Int.emod_eq_of_lt (by omega) (by omega);simp only[IntKind.wrap,IntKind.bits,IntKind.signed]
 first|omega|(simp;omega)
theorem RSt.eight {w0 w:World}{S0:Hp}{B O F W:Nat}{st:ziy}{X:List (Nat×Array Value×Nat)}(h:RSt w0 S0 B O F W st X w){p E:Nat}{v0 v1 v2 v3 v4 v5 v6 v7:Value}(hm:(p,#[v0,v1,v2,v3,v4,v5,v6,v7],E)∈X) :
 w.cell? ⟨p,0,none⟩=some v0/\w.cell? ⟨p,1,none⟩=some v1/\w.cell? ⟨p,2,none⟩=some v2/\w.cell? ⟨p,3,none⟩=some v3/\w.cell? ⟨p,4,none⟩=some v4/\w.cell? ⟨p,5,none⟩=some v5/\w.cell? ⟨p,6,none⟩=some v6/\w.cell? ⟨p,7,none⟩=some v7 :=
 ⟨h.own hm rfl,h.own hm rfl,h.own hm rfl,h.own hm rfl,h.own hm rfl,h.own hm rfl,h.own hm rfl,h.own hm rfl⟩
set_option maxHeartbeats 30000000 in
theorem zl1 (N:Nat) {w0:World} {S0:Hp} {B O F W:Nat} (hg:GlobOk glob S0):∀ (hf:Nat) (n:NodT.den) (enc:Bool) (w:World) (nv:Value) (st st':ziy) (X:List (Nat×Array Value×Nat)),VR S0 NodT n nv->RSt w0 S0 B O F W st X w->zod N hf n enc st=some st' →
 Calls Go.Proofs.Tryd.prog 13 #[nv,.bool enc,.pointer (some ⟨B,0,none⟩),.pointer (some ⟨O,0,none⟩),.pointer (some ⟨F,0,none⟩),.pointer (some ⟨W,0,none⟩)] w fun q w'=>q=.returned (.tuple #[])/\RSt w0 S0 B O F W st' X w'
 | 0,n,enc,w,nv,st,st',X,hn,hst,hy=>by cases hy
 | hf+1, n,enc,w,nv,st,st',X,hn,hst,hy=>by
   have ih:=zl1 N (w0:=w0) (S0:=S0) (B:=B) (O:=O) (F:=F) (W:=W) hg hf;rw[zod] at hy;dsimp only at hy;by_cases hlen:n.2.2.1.length<=9223372036854775807
   case neg=>rw[if_neg (by simpa using hlen)] at hy;cases hy
   rw[if_pos (by simpa using hlen)] at hy;obtain⟨s1,hy1,hy⟩:=Option.bind_eq_some_iff.1 hy;obtain⟨q,hy2,hy⟩:=Option.bind_eq_some_iff.1 hy;have hn':∃ cs,nv=.agg cs/\Rd S0 NodT n cs.toList:=hn;obtain⟨cs,hnv,hrd⟩:=hn';obtain⟨a,cap,c0,c1,c2,c3,hcs,hkids⟩:=zig hrd;have hcs':cs=#[.int .i64 n.1,.int .u64 c0,.int .u64 c1,.int .u64 c2,.int .u64 c3,.slice a n.2.2.1.length cap,.int .i64 n.2.2.2.1,.int .i64 n.2.2.2.2.1]:=by
    apply Array.toList_inj.1;rw[hcs]
   subst hcs';subst hnv
   suffices HX:∀ R:Ending->World->Prop,Go.RowKit.Hid (∀ w',RSt w0 S0 B O F W st' X w'->R (.returned (.tuple #[])) w')->Calls Go.Proofs.Tryd.prog 13 #[.agg #[.int .i64 n.1,.int .u64 c0,.int .u64 c1,.int .u64 c2,.int .u64 c3,.slice a n.2.2.1.length cap,.int .i64 n.2.2.2.1,.int .i64 n.2.2.2.2.1],.bool enc,.pointer (some ⟨B,0,none⟩),.pointer (some ⟨O,0,none⟩),.pointer (some ⟨F,0,none⟩),.pointer (some ⟨W,0,none⟩)] w R from HX _ (Go.Lib.hid (fun w' a=>⟨rfl,a⟩))
   intro R HR;have hal:=hst.alloc #[.int .i64 n.1,.int .u64 c0,.int .u64 c1,.int .u64 c2,.int .u64 c3,.slice a n.2.2.1.length cap,.int .i64 n.2.2.2.1,.int .i64 n.2.2.2.2.1] 27;have HA:=Go.Lib.hid hal;have HY1:=Go.Lib.hid hy1;have HY2:=Go.Lib.hid hy2;have HY:=Go.Lib.hid hy;have HK:=Go.Lib.hid hkids;have HN:=Go.Lib.hid hn;have IH:=Go.Lib.hid ih;have HG:=Go.Lib.hid hg;clear hy hy1 hy2 hal hst hkids hrd hcs hn ih hg;generalize hkl:n.2.2.1.length=kl at *;have HKL:=Go.Lib.hid hkl;clear hkl
   go_enter Go.Proofs.Tryd.func13,Go.Proofs.Tryd.ntmps13
   go_upto_if 10 with (fail)
   go_cut [] from 10 to 13 (fun wc=>RSt w0 S0 B O F W s1 ((w.heap.size,#[.int .i64 n.1,.int .u64 c0,.int .u64 c1,.int .u64 c2,.int .u64 c3,.slice a kl cap,.int .i64 n.2.2.2.1,.int .i64 n.2.2.2.2.1],27)::X) wc)
   case first =>
    have h1:=HY1.out;cases enc with
    | false =>
      rw[z1gz,if_neg (by decide)] at h1;obtain rfl:=Option.some.inj h1;clear h1
      go_wp2
      go_meet
      exact HA.out
    | true =>
      rw[z1gz,if_pos rfl] at h1;by_cases hroom:zc0 st.1 1=true
      case neg=>rw[if_neg hroom] at h1;cases h1
      rw[if_pos hroom] at h1;obtain rfl:=Option.some.inj h1;have HB:=Go.Lib.hid (HA.out.byte N 40 (c:=40) rfl hroom);clear h1 hroom
      go_wp2_with (go_at_call 14;refine HB.out.mono ?_;rintro q1 w1 ⟨⟨v1,rfl⟩,hw1⟩;have hO1:w1.cell? ⟨O,0,none⟩=some (.int .i64 st.2.1):=hw1.getO.1;have hO2:=hw1.getO.2;have HW1:=Go.Lib.hid hw1;clear HB hw1)
      go_meet
      exact HW1.out.setO _
   case rest =>
   have HC:=Go.Lib.hid hcut;clear hcut HA HY1 hy
   go_upto_region 4 with (fail)
   go_cut [] from 14 to 22 (fun wd=>RSt w0 S0 B O F W (znp s1) ((w.heap.size,#[.int .i64 n.1,.int .u64 c0,.int .u64 c1,.int .u64 c2,.int .u64 c3,.slice a kl cap,.int .i64 n.2.2.2.1,.int .i64 n.2.2.2.2.1],27)::X) wd)
   case first =>
    cases hb:s1.2.2 with
    | false =>
      have hF1:wc.cell? ⟨F,0,none⟩=some (.bool false):=by rw[<- hb];exact HC.out.getF.1
      have hF2:=HC.out.getF.2;have HFI:=Go.Lib.hid (show znp s1=(s1.1,(s1.2.1,false)) by simp[znp,hb]);clear hb
      go_wp2
      all_goals (
       go_meet
       rw[HFI.out];exact HC.out.setF _)
    | true =>
      have hF1:wc.cell? ⟨F,0,none⟩=some (.bool true):=by rw[<- hb];exact HC.out.getF.1
      have HFI:=Go.Lib.hid (show znp s1=(s1.1,(s1.2.1,decide (s1.1.length<=256) && decide (s1.2.1<=16))) by simp[znp,hb]);have HLN:=Go.Lib.hid (HC.out.len N);clear hb;by_cases hl2:(s1.1.length:Int)<=256
      all_goals go_wp2_with (go_at_call 15;refine HLN.out.mono ?_;rintro q1 w1 ⟨rfl,hw1⟩;have hO1:=hw1.getO.1;have hF3:=hw1.getF.1;have hF2:=hw1.getF.2;have HW1:=Go.Lib.hid hw1;clear HLN hw1)
      all_goals go_meet
      all_goals first
       | (rw[HFI.out,decide_eq_true (show s1.1.length<=256 by omega),Bool.true_and];exact HW1.out.setF _)
       | (rw[HFI.out,decide_eq_false (show ¬ s1.1.length<=256 by omega),Bool.false_and];exact HW1.out.setF _)
   case rest =>
   have HD:=Go.Lib.hid hcut;have hP5:=(hcut.own (.head _) (i:=5) rfl:wc.cell? ⟨w.heap.size,5,none⟩=some (Value.slice a kl cap))
   have hkk:VR S0 (.sl .nod) n.2.2.1 (.slice a n.2.2.1.length cap):=by rw[HKL.out];exact HK.out
   have HKK:=Go.Lib.hid hkk;clear hcut HC hkk
   go_wp2_with (fail)
   go_loopg [26] kl (fun g i wr=>∃ j:Nat,∃ s:ziy,j<=kl/\g=kl - j/\i=.int .i64 j/\RSt w0 S0 B O F W s ((w.heap.size,#[.int .i64 n.1,.int .u64 c0,.int .u64 c1,.int .u64 c2,.int .u64 c3,.slice a kl cap,.int .i64 n.2.2.2.1,.int .i64 n.2.2.2.2.1],27)::X) wr/\z9o N (zod N hf) n j (n.2.2.1.drop j) s=some q)
   case atStart=>exact⟨0,znp s1,Nat.zero_le _,rfl,rfl,HD.out,HY2.out⟩
   case round =>
    obtain⟨j,s,hj,rfl,rfl,hr,hkf⟩:=hrel;clear HY2 HD;by_cases hjl:j<kl
    . have hjz:(j:Int)<(kl:Int):=by omega
      have hj0:(0:Int)<=(j:Int):=by omega
      have hjl':j<n.2.2.1.length:=by rw[HKL.out];exact hjl
      obtain⟨b,off,rfl,hall⟩:=zzc HKK.out (by omega);obtain⟨a',cap',d0,d1,d2,d3,hkv,hkc⟩:=hall j hjl';have hc8:=hkc wr hr.sub;rw[z1m2 hjl'] at hkf;have HKF:=Go.Lib.hid (zt0 N hkf);have HKV:=Go.Lib.hid hkv;generalize unN (n.2.2.1.getD j zoz)=kd at *;have hra:=hr.alloc #[.int .i64 kd.1,.int .u64 d0,.int .u64 d1,.int .u64 d2,.int .u64 d3,.slice a' kd.2.2.1.length cap',.int .i64 kd.2.2.2.1,.int .i64 kd.2.2.2.2.1] 27;have HRA:=Go.Lib.hid hra;rcases HKF.out with⟨hf1,hq1⟩|⟨hf1,s2,e,s3,hb1,he,hs3,hkr⟩
      . have hFa:(wr.alloc (.cells #[.int .i64 kd.1,.int .u64 d0,.int .u64 d1,.int .u64 d2,.int .u64 d3,.slice a' kd.2.2.1.length cap',.int .i64 kd.2.2.2.1,.int .i64 kd.2.2.2.2.1] 27)).cell? ⟨F,0,none⟩=some (.bool false):=by rw[<- hf1];exact hra.getF.1
        have hst':s=st':=by
         have:=HY.out;rw[hq1,if_pos rfl] at this;exact Option.some.inj this
        have HST:=Go.Lib.hid hst';clear hf1 hq1 hst' hkf hkc hall hr hkv hjl' hra HKF
        go_wp2
        rw[<- HST.out] at HR;exact bodyPost_ret (results_none rfl _ _ _) rfl (HR.out _ (HRA.out.drop (fun p hp=>.tail _ (.tail _ hp))))
      . have hFa:(wr.alloc (.cells #[.int .i64 kd.1,.int .u64 d0,.int .u64 d1,.int .u64 d2,.int .u64 d3,.slice a' kd.2.2.1.length cap',.int .i64 kd.2.2.2.1,.int .i64 kd.2.2.2.2.1] 27)).cell? ⟨F,0,none⟩=some (.bool true):=by rw[<- hf1];exact hra.getF.1
        have hKa:(wr.alloc (.cells #[.int .i64 kd.1,.int .u64 d0,.int .u64 d1,.int .u64 d2,.int .u64 d3,.slice a' kd.2.2.1.length cap',.int .i64 kd.2.2.2.1,.int .i64 kd.2.2.2.2.1] 27)).cell? ⟨w.heap.size,0,none⟩=some (.int .i64 n.1):=hra.own (.tail _ (.head _)) (i:=0) rfl;have HB1:=Go.Lib.hid hb1;have HE1:=Go.Lib.hid he;have HS3:=Go.Lib.hid hs3;have HKR:=Go.Lib.hid hkr;clear hf1 hb1 he hs3 hkr hkf hkc hall hr hkv hjl' hra HKF
        go_upto_region 9 with (fail)
        go_cut [26,39] from 26 to 47 (fun s26 s39 wd=>s26=.int .i64 j/\s39=.bool (decide (n.1=3) && decide (0<j))/\RSt w0 S0 B O F W s ((wr.heap.size,#[.int .i64 kd.1,.int .u64 d0,.int .u64 d1,.int .u64 d2,.int .u64 d3,.slice a' kd.2.2.1.length cap',.int .i64 kd.2.2.2.1,.int .i64 kd.2.2.2.2.1],27)::(w.heap.size,#[.int .i64 n.1,.int .u64 c0,.int .u64 c1,.int .u64 c2,.int .u64 c3,.slice (some ⟨b,off,none⟩) kl cap,.int .i64 n.2.2.2.1,.int .i64 n.2.2.2.2.1],27)::X) wd)
        case first =>
         by_cases h3:n.1=3
         . have h3b:(n.1 == 3)=true:=by simp[h3]
           have H3:=Go.Lib.hid h3;clear h3;by_cases hj1:(0:Int)<(j:Int)
           . go_wp2
             go_meet
             exact⟨rfl,congrArg Value.bool (by rw[decide_eq_true H3.out,decide_eq_true (by omega)];rfl),HRA.out⟩
           . go_wp2
             go_meet
             exact⟨rfl,congrArg Value.bool (by rw[decide_eq_true H3.out,decide_eq_false (by omega)];rfl),HRA.out⟩
         . have h3b:(n.1 == 3)=false:=by simp[h3]
           have H3:=Go.Lib.hid h3;clear h3
           go_wp2
           go_meet
           exact⟨rfl,congrArg Value.bool (by rw[decide_eq_false H3.out];rfl),HRA.out⟩
        case rest =>
        obtain⟨rfl,rfl,hcut⟩:=hcut;have HC9:=Go.Lib.hid hcut;clear hcut HRA
        go_upto_if 39 with (fail)
        go_cut [26] from 26 to 47 (fun s26 wd=>s26=.int .i64 j/\RSt w0 S0 B O F W s2 ((wr.heap.size,#[.int .i64 kd.1,.int .u64 d0,.int .u64 d1,.int .u64 d2,.int .u64 d3,.slice a' kd.2.2.1.length cap',.int .i64 kd.2.2.2.1,.int .i64 kd.2.2.2.2.1],27)::(w.heap.size,#[.int .i64 n.1,.int .u64 c0,.int .u64 c1,.int .u64 c2,.int .u64 c3,.slice (some ⟨b,off,none⟩) kl cap,.int .i64 n.2.2.2.1,.int .i64 n.2.2.2.2.1],27)::X) wd)
        case first =>
         have h1:=HB1.out;cases hbb:(decide (n.1=3) && decide (0<j)) with
         | false =>
           rw[zzu,if_neg (by simpa using hbb)] at h1;obtain rfl:=Option.some.inj h1;clear h1 hbb
           go_wp2
           go_meet
           exact⟨rfl,HC9.out⟩
         | true =>
           rw[zzu,if_pos (by simpa using hbb)] at h1;by_cases hroom:zc0 s.1 1=true
           case neg=>rw[if_neg hroom] at h1;cases h1
           rw[if_pos hroom] at h1;obtain rfl:=Option.some.inj h1;have HB:=Go.Lib.hid (HC9.out.byte N 124 (c:=124) rfl hroom);clear h1 hroom hbb
           go_wp2_with (go_at_call 14;refine HB.out.mono ?_;rintro q1 w1 ⟨⟨v1,rfl⟩,hw1⟩;have HW1:=Go.Lib.hid hw1;clear HB hw1)
           go_meet
           exact⟨rfl,HW1.out⟩
        case rest =>
        obtain⟨rfl,hcut⟩:=hcut;have HC11:=Go.Lib.hid hcut;clear hcut HC9 HB1
        go_upto_region 11 with (fail)
        have y1:=And.intro (HC11.out.getW) (And.intro (HC11.out.eight (.head _)) (HC11.out.eight (.tail _ (.head _))));unfold z14a at y1;have HEN:=Go.Lib.hid (HC11.out.drew.enc N HG.out HN.out HKV.out HE1.out)
        go_region_held3 (fun w'=>(World.cell? w' ⟨W,0,none⟩=some (.func (.func 13) #[] #[.pointer (some ⟨B,0,none⟩),.pointer (some ⟨O,0,none⟩),.pointer (some ⟨F,0,none⟩),.pointer (some ⟨W,0,none⟩)]))/\(World.cell? w' ⟨wr.heap.size,0,none⟩=some (.int .i64 kd.1)/\World.cell? w' ⟨wr.heap.size,1,none⟩=some (.int .u64 d0)/\World.cell? w' ⟨wr.heap.size,2,none⟩=some (.int .u64 d1)/\World.cell? w' ⟨wr.heap.size,3,none⟩=some (.int .u64 d2)/\World.cell? w' ⟨wr.heap.size,4,none⟩=some (.int .u64 d3)/\World.cell? w' ⟨wr.heap.size,5,none⟩=some (Value.slice a' kd.2.2.1.length cap')/\World.cell? w' ⟨wr.heap.size,6,none⟩=some (.int .i64 kd.2.2.2.1)/\World.cell? w' ⟨wr.heap.size,7,none⟩=some (.int .i64 kd.2.2.2.2.1))/\(World.cell? w' ⟨w.heap.size,0,none⟩=some (.int .i64 n.1)/\World.cell? w' ⟨w.heap.size,1,none⟩=some (.int .u64 c0)/\World.cell? w' ⟨w.heap.size,2,none⟩=some (.int .u64 c1)/\World.cell? w' ⟨w.heap.size,3,none⟩=some (.int .u64 c2)/\World.cell? w' ⟨w.heap.size,4,none⟩=some (.int .u64 c3)/\World.cell? w' ⟨w.heap.size,5,none⟩=some (Value.slice (some ⟨b,off,none⟩) kl cap)/\World.cell? w' ⟨w.heap.size,6,none⟩=some (.int .i64 n.2.2.2.1)/\World.cell? w' ⟨w.heap.size,7,none⟩=some (.int .i64 n.2.2.2.2.1))) (first|exact y1|exact y2|exact y3) (first
         | (go_at_call 16;refine HEN.out.mono ?_;rintro q4 w4 ⟨rfl,hw4⟩;have y2:=And.intro (hw4.getW) (And.intro (hw4.eight (.head _)) (hw4.eight (.tail _ (.head _))));unfold z14a at y2;have HWR:=Go.Lib.hid (IH.out kd e w4 _ s2 s3 _ HKV.out hw4 HS3.out);clear hw4 HEN)
         | (go_at_call 13;refine HWR.out.mono ?_;rintro q5 w5 ⟨rfl,hw5⟩;have y3:=And.intro (hw5.getW) (And.intro (hw5.eight (.head _)) (hw5.eight (.tail _ (.head _))));unfold z14a at y3;have HW5:=Go.Lib.hid hw5;clear hw5 HWR))
        all_goals (have hwj:IntKind.i64.wrap ((j:Int)+1)=(j:Int)+1:=z1de (by omega))
        all_goals (have hwk:Go.RowKit.wrap64 ((j:Int)+1)=(j:Int)+1:=by unfold Go.RowKit.wrap64;omega)
        all_goals go_wp2
        all_goals (
         go_roundg (kl - (j+1))
         case measure=>go_light;omega
         case rel=>go_light;exact⟨j+1,s3,by omega,rfl,by simp,HW5.out.drop (fun p hp=>.tail _ hp),HKR.out⟩)
    . obtain rfl:j=kl:=by omega
      have hjz:¬ ((j:Int)<(j:Int)):=by omega
      rw[show List.drop j n.2.2.1=[] from List.drop_eq_nil_of_le (by rw[HKL.out];exact Nat.le_refl _),z9o] at hkf;obtain rfl:=Option.some.inj hkf;have hy5:=HY.out;rw[if_neg (by simp),z156] at hy5;obtain⟨e,he,hy5⟩:=Option.bind_eq_some_iff.1 hy5;dsimp only at he hy5;by_cases hroom:zc0 s.1 (e.length+1)=true
      case neg=>rw[if_neg hroom] at hy5;cases hy5
      rw[if_pos hroom] at hy5;have hst5:=Option.some.inj hy5;have y1:=hr.eight (.head _);have HE5:=Go.Lib.hid (hr.end N HG.out HN.out he);have HRM:=Go.Lib.hid hroom;have HS5:=Go.Lib.hid hst5;clear hkf hy5 he hroom hst5 hr HY HK HKK hy;cases enc with
      | false =>
        go_wp2_with (first
         | (go_at_call 18;refine HE5.out.mono ?_;rintro q4 w4 ⟨rfl,hw4⟩;have HT5:=Go.Lib.hid (hw4.text N e HRM.out);clear hw4 HE5)
         | (go_at_call 17;refine HT5.out.mono ?_;rintro q5 w5 ⟨⟨v5,rfl⟩,hw5⟩;have HW5:=Go.Lib.hid hw5;clear hw5 HT5))
        refine bodyPost_end (results_none rfl _ _ _) rfl (HR.out _ ?_);have:=HS5.out;rw[if_neg (by decide)] at this;rw[<- this];exact HW5.out.drop (fun p hp=>.tail _ hp)
      | true =>
        go_wp2_with (first
         | (go_at_call 18;refine HE5.out.mono ?_;rintro q4 w4 ⟨rfl,hw4⟩;have HT5:=Go.Lib.hid (hw4.text N e HRM.out);clear hw4 HE5)
         | (go_at_call 17;refine HT5.out.mono ?_;rintro q5 w5 ⟨⟨v5,rfl⟩,hw5⟩;have HB5:=Go.Lib.hid (hw5.byte N 41 (c:=41) rfl (by have:=of_decide_eq_true HRM.out;unfold zc0;rw[decide_eq_true_eq,List.length_append];omega));clear hw5 HT5)
         | (go_at_call 14;refine HB5.out.mono ?_;rintro q6 w6 ⟨⟨v6,rfl⟩,hw6⟩;have hO1:w6.cell? ⟨O,0,none⟩=some (.int .i64 s.2.1):=hw6.getO.1;have hO2:=hw6.getO.2;have HW6:=Go.Lib.hid hw6;clear hw6 HB5))
        refine bodyPost_end (results_none rfl _ _ _) rfl (HR.out _ ?_);have:=HS5.out;rw[if_pos trivial] at this;rw[<- this];exact (HW6.out.setO _).drop (fun p hp=>.tail _ hp)
end
end Go.Proofs.YthgcpalmjcomlaaDoorLg
set_option linter.all false
set_option maxRecDepth 100000
namespace Go.Proofs.YthgcpalmjcomlaaDoorLg
noncomputable section
open Go Go.Lift
abbrev PrsT:T:=.pair .str TT0
theorem fail_walk {w:World}{v:Value}{e at_:Int} :
 Calls Tryd.prog 22 #[v,.int .i64 e,.int .i64 at_] w fun r w'=>r=.panicked [{ v:=.iface 34 (.agg #[.int .i64 e,.int .i64 at_]),recovered:=false }]/\w'=w:=by
 go_enter Tryd.func22,Tryd.ntmps22
 go_wp2
 exact⟨rfl,rfl,rfl⟩
def zm (N:Nat):List A->PnRes:=zgg [(0,.box (.pair .str TT0)),(0,.v (.int .i64)),(0,.v (.int .i64))] (fun x=>some ((x.2.1,(x.2.2.1,())):Int×(Int×Unit))) (fun z=>⟨.pair (.int .i64) (.pair (.int .i64) .unit),z⟩)
theorem zu (N:Nat):ContractP Tryd.prog glob 22 34 (zm N):=by
 refine ContractP.hand ⟨_,Tryd.func22,by kernel_rfl,by decide⟩ ?_;intro w S vals ob x y har hS hg hy;obtain⟨x,n,m,u⟩:=x;cases u;obtain⟨⟨v0,hv0,hA0⟩,_⟩:=har.rel 0 _ rfl;obtain⟨⟨v1,hv1,hA1⟩,_⟩:=har.rel 1 _ rfl;obtain⟨⟨v2,hv2,hA2⟩,_⟩:=har.rel 2 _ rfl;have hlen:=har.len;have hvals:vals=[v0,v1,v2]:=by
  match vals,hlen with
  | [a,b,c],_=>cases hv0;cases hv1;cases hv2;rfl
 have e1:=VR.int_inv hA1.1;have e2:=VR.int_inv hA2.1;subst e1;subst e2;subst hvals;cases hy;refine fail_walk.mono ?_;rintro r w' ⟨rfl,rfl⟩;exact⟨rfl,WF.refl _ _,hS⟩
def zvu:Code:=(Tryd.f68.body).getD .skip
def L_59:List (List Nat×List Nat):=[([0],[0]),([0,0,1],[12,0]),([1,0,1],[0]),([0,1,0,1],[0]),([0,1,1],[2,0]),([1,1,1],[2,0])]
def E_59 (N:Nat):Env:=z24 tys glob [] [] [] [0] false [] []
theorem z1n9 (N:Nat):EnvOk Tryd.prog (E_59 N):=zg mixed z12 (FnsOk.nil) (ItsOk.nil)
def z40 (N:Nat):PnT:=pnT [(22,34,zm N)]
theorem z8d (N:Nat):PnOk Tryd.prog glob (z40 N):=PnOk.cons (zu N) (PnOk.nil)
def z52 (N:Nat)(p:DT3)(k0:(Int×(Int×Unit))->Option (Int×(Int×Unit)))(k1:Option (Int×(Int×Unit))):Option (Int×(Int×Unit)) :=
 cond (p.2.1 == (((List.length p.1):Nat):Int))
 (k0 ((1:Int),(p.2.1,())))
 (k1)
def z1l0 (N:Nat)(x:z1e SQ0)(K:ExP->List A->Option (Int×(Int×Unit))):Option (Int×(Int×Unit)) :=
 z52 N x.1 (fun a0=>(K (.pan 34) (mkS [(0,.v TT0)] 0 (a0,())))) (K .normal (mkS SQ0 27 (x.1,())))
def z1im (N:Nat):HdP (Int×(Int×Unit)):=fun st K=>(unS SQ0 27 (restr [0] 0 st)).bind fun x=>z1l0 N x K
def t1_59 (N:Nat):zbd (Int×(Int×Unit)):=[]
theorem z1fm {N:Nat}{c:Ctx}(hb:Base Tryd.prog (E_59 N) c)(hP:PnOk Tryd.prog glob (z40 N)):z22 Tryd.prog c (zd zvu [0,1]) (z1im N) :=
 z26 (s:=SQ0) (m:=27) (g:=z1l0 N) [0] (z1n hb hP N (t1_59 N) L_59 zvu TabOkP.nil [0,1] _ rfl) (fun x K=>by kernel_rfl)
def z1i (N:Nat)(p:DT3):Option (Int×(Int×Unit)) :=
 z52 N p
 (fun p1=>some p1)
 (cond (inR p.2.1 (List.length p.1))
 (none)
 (none))
def t_59 (N:Nat):zbd (Int×(Int×Unit)):=[([0,1],z1im N)]
theorem z19s (N:Nat)(x:z1e SQ0):zgh (E_59 N) (z40 N) N (t_59 N) L_59 Tryd.f68 34 TT0 (mkS SQ0 0 x) (fun z=>some z)=z1i N x.1:=by kernel_rfl
def z1u (N:Nat):List A->PnRes:=zgg SQ0 (fun x=>z1i N x.1) (fun z=>⟨TT0,z⟩)
theorem z2v (N:Nat):ContractP Tryd.prog glob 68 34 (z1u N) :=
 ContractP.of (E:=E_59 N) (Pn:=z40 N) (H:=t_59 N) (L:=L_59) (N:=N) (body:=zvu) (t:=TT0) (z1n9 N) (z8d N) Tryd.func68 (by kernel_rfl) (by decide) (fun _ hb=>(TabOkP.cons (z1fm hb (z8d N)) TabOkP.nil)) (fun x y h=>by rw[z19s];exact h)
def zvt:Code:=(Tryd.f61.body).getD .skip
def L_60:List (List Nat×List Nat):=[([0,0],[7,0]),([1,0],[0]),([0,1,0],[0]),([1],[0])]
def E_60 (N:Nat):Env:=z24 tys glob [(68,z13 N)] [] [] [0] false [] []
theorem z1n8 (N:Nat):EnvOk Tryd.prog (E_60 N):=zg mixed z12 (FnsOk.cons (z1d N) (FnsOk.nil)) (ItsOk.nil)
def z41 (N:Nat):PnT:=pnT [(68,34,z1u N),(22,34,zm N)]
theorem z8e (N:Nat):PnOk Tryd.prog glob (z41 N):=PnOk.cons (z2v N) (PnOk.cons (zu N) (PnOk.nil))
def z53 (N:Nat)(p:DT3)(b:Int)(k0:(Int×(Int×Unit))->Option (Int×(Int×Unit)))(k1:DT3->Option (Int×(Int×Unit))):Option (Int×(Int×Unit)) :=
 orP ((z1i N p)) (fun z=>k0 z)
 ((z14 N p).bind fun y =>
 cond (y.1 != b)
 (k0 ((2:Int),(y.2.1.2.1,())))
 (k1 y.2.1))
def z1kz (N:Nat)(x:z1e SQ8)(K:ExP->List A->Option (Int×(Int×Unit))):Option (Int×(Int×Unit)) :=
 z53 N x.1 x.2.1 (fun a0=>(K (.pan 34) (mkS [(0,.v TT0)] 0 (a0,())))) (fun a0=>(K .normal (mkS SQ0 20 (a0,()))))
def z1il (N:Nat):HdP (Int×(Int×Unit)):=fun st K=>(unS SQ8 19 (restr [0,1] 0 st)).bind fun x=>z1kz N x K
def t1_60 (N:Nat):zbd (Int×(Int×Unit)):=[]
theorem z1fl {N:Nat}{c:Ctx}(hb:Base Tryd.prog (E_60 N) c)(hP:PnOk Tryd.prog glob (z41 N)):z22 Tryd.prog c (zd zvt [0]) (z1il N) :=
 z26 (s:=SQ8) (m:=19) (g:=z1kz N) [0,1] (z1n hb hP N (t1_60 N) L_60 zvt TabOkP.nil [0] _ rfl) (fun x K=>by kernel_rfl)
def z16 (N:Nat)(p:DT3)(b:Int):Option (Int×(Int×Unit)) :=
 z53 N p b
 (fun p1=>some p1)
 (fun p2=>none)
def t_60 (N:Nat):zbd (Int×(Int×Unit)):=[([0],z1il N)]
theorem z19r (N:Nat)(x:z1e SQ8):zgh (E_60 N) (z41 N) N (t_60 N) L_60 Tryd.f61 34 TT0 (mkS SQ8 0 x) (fun z=>some z)=z16 N x.1 x.2.1:=by kernel_rfl
def z2g (N:Nat):List A->PnRes:=zgg SQ8 (fun x=>z16 N x.1 x.2.1) (fun z=>⟨TT0,z⟩)
theorem z3t (N:Nat):ContractP Tryd.prog glob 61 34 (z2g N) :=
 ContractP.of (E:=E_60 N) (Pn:=z41 N) (H:=t_60 N) (L:=L_60) (N:=N) (body:=zvt) (t:=TT0) (z1n8 N) (z8e N) Tryd.func61 (by kernel_rfl) (by decide) (fun _ hb=>(TabOkP.cons (z1fl hb (z8e N)) TabOkP.nil)) (fun x y h=>by rw[z19r];exact h)
def za6:Code:=(Tryd.f60.body).getD .skip
def z17y:List (List Nat×List Nat):=[([0],[0]),([0,1],[0,3]),([0,0,1,1],[12,0,3]),([1,0,1,1],[0,3]),([0,1,0,1,1],[0,3]),([0,1,1,1],[0,4,3]),([0,0,1,1,1,1],[0,4,3]),([0,0,0,0,0,1,1,1,1],[37,4,0,3]),([1,0,0,0,0,1,1,1,1],[4,0,3]),(PQ85,[0,3,4]),([0,0,1,0,0,0,1,1,1,1],[0,4,3]),([1,0,1,0,0,0,1,1,1,1],[0,4,3]),([1,0,0,0,1,1,1,1],[0,4,3]),([0,1,1,1,1],[0,3,4]),(zqd,[75,0,3,4]),(z17t,[4,0,3]),(z1d3,[4,0,3]),(PQ66,[80,0,3,4]),([1,0,1,1,1,1,1,1],[4,0]),([0,1,0,1,1,1,1,1,1],[4,0]),(z17w,[2,0]),(z17v,[2,0])]
def z16k (N:Nat):Env:=z24 tys glob [(68,z13 N),(70,z78 N)] [] [] [0] false [] []
theorem z1n7 (N:Nat):EnvOk Tryd.prog (z16k N):=zg mixed z12 (FnsOk.cons (z1d N) (FnsOk.cons (za8 N) (FnsOk.nil))) (ItsOk.nil)
def z1b (N:Nat):PnT:=pnT [(68,34,z1u N),(22,34,zm N)]
theorem z3s (N:Nat):PnOk Tryd.prog glob (z1b N):=PnOk.cons (z2v N) (PnOk.cons (zu N) (PnOk.nil))
def z5w (N:Nat)(p:DT3)(from_:Int)(k0:(Int×(Int×Unit))->Option (Int×(Int×Unit)))(k1:DT3->Option (Int×(Int×Unit))):Option (Int×(Int×Unit)) :=
 orP ((z1i N p)) (fun z=>k0 z)
 ((z14 N p).bind fun y =>
 (z4w N y.1).bind fun y1 =>
 cond (!y1)
 (k0 ((2:Int),(from_,())))
 (k1 y.2.1))
def z1ky (N:Nat)(x:z1e z17q)(K:ExP->List A->Option (Int×(Int×Unit))):Option (Int×(Int×Unit)) :=
 z5w N x.1 x.2.1 (fun a0=>(K (.pan 34) (mkS [(0,.v TT0)] 0 (a0,())))) (fun a0=>(K .normal (mkS z17q 81 (a0,x.2.1,()))))
def z1ik (N:Nat):HdP (Int×(Int×Unit)):=fun st K=>(unS z17q 81 (restr [0,3] 0 st)).bind fun x=>z1ky N x K
def t1_61 (N:Nat):zbd (Int×(Int×Unit)):=[]
theorem z1fk {N:Nat}{c:Ctx}(hb:Base Tryd.prog (z16k N) c)(hP:PnOk Tryd.prog glob (z1b N)):z22 Tryd.prog c (zd za6 [0,1,1]) (z1ik N) :=
 z26 (s:=z17q) (m:=81) (g:=z1ky N) [0,3] (z1n hb hP N (t1_61 N) z17y za6 TabOkP.nil [0,1,1] _ rfl) (fun x K=>by kernel_rfl)
def z3z (N:Nat)(p:DT3)(from_:Int)(n:Int)(k0:Option (Int×(Int×Unit)))(k1:Option (Int×(Int×Unit))):Option (Int×(Int×Unit)) :=
 cond (decide (p.2.1<(((List.length p.1):Nat):Int)))
 (cond (inR p.2.1 (List.length p.1))
 ((z4w N (((UInt8.toNat (List.getD p.1 (Int.toNat p.2.1) (0:UInt8))):Nat):Int)).bind fun y =>
 cond y
 (k0)
 (k1))
 (none))
 (k1)
def z1jo (N:Nat)(x:z1e SQ1)(K:ExP->List A->Option (Int×(Int×Unit))):Option (Int×(Int×Unit)) :=
 z3z N x.1 x.2.1 x.2.2.1 (K .normal (mkS SQ1 80 (x.1,x.2.1,x.2.2.1,()))) (K (.exit 0) (mkS SQ1 80 (x.1,x.2.1,x.2.2.1,())))
def z1ha (N:Nat):HdP (Int×(Int×Unit)):=fun st K=>(unS SQ1 80 (restr [0,4,3] 0 st)).bind fun x=>z1jo N x K
def t4_61 (N:Nat):zbd (Int×(Int×Unit)):=[]
theorem z1ea {N:Nat}{c:Ctx}(hb:Base Tryd.prog (z16k N) c)(hP:PnOk Tryd.prog glob (z1b N)):z22 Tryd.prog c (zd za6 z1d2) (z1ha N) :=
 z26 (s:=SQ1) (m:=80) (g:=z1jo N) [0,4,3] (z1n hb hP N (t4_61 N) z17y za6 TabOkP.nil z1d2 _ rfl) (fun x K=>by kernel_rfl)
def z1r (N:Nat)(from_:Int)(p:DT3)(n:Int)(rec:DT3->Int->Option (Int×(Int×Unit)))(k0:DT3->Int->Option (Int×(Int×Unit))):Option (Int×(Int×Unit)) :=
 z3z N p from_ n
 (cond (inR p.2.1 (List.length p.1))
 (rec (p.1,((IntKind.wrap IntKind.i64 (p.2.1+(1:Int))),p.2.2)) (if ((17:Int)<(IntKind.wrap IntKind.i64 ((IntKind.wrap IntKind.i64 ((10:Int)*n))+(IntKind.wrap IntKind.i64 (IntKind.wrap IntKind.u8 ((((UInt8.toNat (List.getD p.1 (Int.toNat p.2.1) (0:UInt8))):Nat):Int) - (48:Int))))))) then (17:Int) else (IntKind.wrap IntKind.i64 ((IntKind.wrap IntKind.i64 ((10:Int)*n))+(IntKind.wrap IntKind.i64 (IntKind.wrap IntKind.u8 ((((UInt8.toNat (List.getD p.1 (Int.toNat p.2.1) (0:UInt8))):Nat):Int) - (48:Int))))))))
 (none))
 (k0 p n)
def z9j (N:Nat)(p:DT3)(from_:Int)(n:Int)(k0:DT3->Int->Option (Int×(Int×Unit))):Option (Int×(Int×Unit)) :=
 iter (fun (v:(DT3×Int)) r=>z1r N from_ v.1 v.2 (fun p n=>(r (p,n))) k0) N (p,n)
def z1ju (N:Nat)(i:Int)(v:(DT3×Int))(r:(DT3×Int)->Option (Int×(Int×Unit)))(K:ExP->List A->Option (Int×(Int×Unit))):Option (Int×(Int×Unit)) :=
 z1r N i v.1 v.2 (fun p n=>(r (p,n))) (fun a0 a2=>(K (.exit 0) (mkS SQ1 80 (a0,i,a2,()))))
def z1hg (N:Nat):HdP (Int×(Int×Unit)):=fun st K=>(unS SQ1 80 (restr [0,4,3] 0 st)).bind fun x=>iter (fun v r=>z1ju N ((fun x=>x.2.1) x) v r K) N ((fun x=>(x.1,x.2.2.1)) x)
def t3_61 (N:Nat):zbd (Int×(Int×Unit)):=[(z1d2,z1ha N)]
theorem z1eg {N:Nat}{c:Ctx}(hb:Base Tryd.prog (z16k N) c)(hP:PnOk Tryd.prog glob (z1b N)):z22 Tryd.prog c (zd za6 [0,0,1,1,1,1]) (z1hg N) :=
 zm3 (s:=SQ1) (m:=80) (z1ju N) [0,4,3] N (fun x=>x.2.1) (fun x=>(x.1,x.2.2.1)) (fun i v=>(v.1,i,v.2,())) (fun _=>rfl) (z1n hb hP N (t3_61 N) z17y za6 (TabOkP.cons (z1ea hb hP) TabOkP.nil) [0,0,0,1,1,1,1] _ rfl) (fun i v r K=>by kernel_rfl)
def z5v (N:Nat)(p:DT3)(from_:Int)(n:Int)(k0:DT3->Int->Option (Int×(Int×Unit))):Option (Int×(Int×Unit)) :=
 z9j N p from_ n
 (fun p1 n1=>k0 p1 n1)
def z1k8 (N:Nat)(x:z1e SQ1)(K:ExP->List A->Option (Int×(Int×Unit))):Option (Int×(Int×Unit)) :=
 z5v N x.1 x.2.1 x.2.2.1 (fun a0 a2=>(K .normal (mkS SQ1 80 (a0,x.2.1,a2,()))))
def z1hu (N:Nat):HdP (Int×(Int×Unit)):=fun st K=>(unS SQ1 80 (restr [0,4,3] 0 st)).bind fun x=>z1k8 N x K
def t2_61 (N:Nat):zbd (Int×(Int×Unit)):=[([0,0,1,1,1,1],z1hg N)]
theorem z1eu {N:Nat}{c:Ctx}(hb:Base Tryd.prog (z16k N) c)(hP:PnOk Tryd.prog glob (z1b N)):z22 Tryd.prog c (zd za6 [0,1,1,1,1]) (z1hu N) :=
 z26 (s:=SQ1) (m:=80) (g:=z1k8 N) [0,4,3] (z1n hb hP N (t2_61 N) z17y za6 (TabOkP.cons (z1eg hb hP) TabOkP.nil) [0,1,1,1,1] _ rfl) (fun x K=>by kernel_rfl)
def z5t (N:Nat)(p:DT3)(from_:Int)(n:Int)(k0:Bool->Option (Int×(Int×Unit))):Option (Int×(Int×Unit)) :=
 cond (inR from_ (List.length p.1))
 (cond ((((UInt8.toNat (List.getD p.1 (Int.toNat from_) (0:UInt8))):Nat):Int) == (48:Int))
 (k0 (decide ((IntKind.wrap IntKind.i64 (from_+(1:Int)))<p.2.1)))
 (k0 false))
 (none)
def z1ji (N:Nat)(x:z1e SQ1)(K:ExP->List A->Option (Int×(Int×Unit))):Option (Int×(Int×Unit)) :=
 z5t N x.1 x.2.1 x.2.2.1 (fun a3=>(K .normal (mkS SQ64 9 (x.1,x.2.1,x.2.2.1,a3,()))))
def z1h4 (N:Nat):HdP (Int×(Int×Unit)):=fun st K=>(unS SQ1 80 (restr [0,3,4] 0 st)).bind fun x=>z1ji N x K
def t6_61 (N:Nat):zbd (Int×(Int×Unit)):=[]
theorem z1e4 {N:Nat}{c:Ctx}(hb:Base Tryd.prog (z16k N) c)(hP:PnOk Tryd.prog glob (z1b N)):z22 Tryd.prog c (zd za6 zqd) (z1h4 N) :=
 z26 (s:=SQ1) (m:=80) (g:=z1ji N) [0,3,4] (z1n hb hP N (t6_61 N) z17y za6 TabOkP.nil zqd _ rfl) (fun x K=>by kernel_rfl)
def z5u (N:Nat)(p:DT3)(from_:Int)(n:Int)(k0:(Int×(Int×Unit))->Option (Int×(Int×Unit)))(k1:Option (Int×(Int×Unit))):Option (Int×(Int×Unit)) :=
 z5t N p from_ n
 (fun x75=>cond x75
 (k0 ((2:Int),(from_,())))
 (k1))
def z1jk (N:Nat)(x:z1e SQ1)(K:ExP->List A->Option (Int×(Int×Unit))):Option (Int×(Int×Unit)) :=
 z5u N x.1 x.2.1 x.2.2.1 (fun a0=>(K (.pan 34) (mkS [(0,.v TT0)] 0 (a0,())))) (K .normal (mkS SQ1 80 (x.1,x.2.1,x.2.2.1,())))
def z1h6 (N:Nat):HdP (Int×(Int×Unit)):=fun st K=>(unS SQ1 80 (restr [0,3,4] 0 st)).bind fun x=>z1jk N x K
def t5_61 (N:Nat):zbd (Int×(Int×Unit)):=[(zqd,z1h4 N)]
theorem z1e6 {N:Nat}{c:Ctx}(hb:Base Tryd.prog (z16k N) c)(hP:PnOk Tryd.prog glob (z1b N)):z22 Tryd.prog c (zd za6 [0,1,1,1,1,1]) (z1h6 N) :=
 z26 (s:=SQ1) (m:=80) (g:=z1jk N) [0,3,4] (z1n hb hP N (t5_61 N) z17y za6 (TabOkP.cons (z1e4 hb hP) TabOkP.nil) [0,1,1,1,1,1] _ rfl) (fun x K=>by kernel_rfl)
def z37 (N:Nat)(p:DT3):Option (Int×(Int×Unit)) :=
 z5w N p p.2.1
 (fun p1=>some p1)
 (fun p2=>z5v N p2 p.2.1 (0:Int)
 (fun p3 n=>z5u N p3 p.2.1 n
 (fun p4=>some p4)
 (cond (decide ((16:Int)<n))
 (some ((3:Int),(p.2.1,())))
 (none))))
def t_61 (N:Nat):zbd (Int×(Int×Unit)):=[([0,1,1],z1ik N),([0,1,1,1,1],z1hu N),([0,1,1,1,1,1],z1h6 N)]
theorem z19q (N:Nat)(x:z1e SQ0):zgh (z16k N) (z1b N) N (t_61 N) z17y Tryd.f60 34 TT0 (mkS SQ0 0 x) (fun z=>some z)=z37 N x.1:=by kernel_rfl
def z95 (N:Nat):List A->PnRes:=zgg SQ0 (fun x=>z37 N x.1) (fun z=>⟨TT0,z⟩)
theorem zet (N:Nat):ContractP Tryd.prog glob 60 34 (z95 N) :=
 ContractP.of (E:=z16k N) (Pn:=z1b N) (H:=t_61 N) (L:=z17y) (N:=N) (body:=za6) (t:=TT0) (z1n7 N) (z3s N) Tryd.func60 (by kernel_rfl) (by decide) (fun _ hb=>(TabOkP.cons (z1fk hb (z3s N)) (TabOkP.cons (z1eu hb (z3s N)) (TabOkP.cons (z1e6 hb (z3s N)) TabOkP.nil)))) (fun x y h=>by rw[z19q];exact h)
def zo1:Code:=(Tryd.f69.body).getD .skip
def L_62:List (List Nat×List Nat):=[([0],[0,1]),([0,1],[0,5,1]),([0,1,1],[5,0,1]),([0,0,1,1,1],[16,5,0,1]),([1,0,1,1,1],[5,0,1]),(z1ce,[4,0]),(z1cd,[4,0]),([0,0,1,1,1,1],[24,0,1,5]),([1,0,1,1,1,1],[5,0]),([0,1,0,1,1,1,1],[5,0]),([0,1,1,1,1,1],[4,0]),([1,1,1,1,1,1],[4,0])]
def z1om (N:Nat):Env:=z24 tys glob [(68,z13 N),(70,z78 N)] [] [] [0] false [] []
theorem z1n6 (N:Nat):EnvOk Tryd.prog (z1om N):=zg mixed z12 (FnsOk.cons (z1d N) (FnsOk.cons (za8 N) (FnsOk.nil))) (ItsOk.nil)
def z3g (N:Nat):PnT:=pnT [(68,34,z1u N),(22,34,zm N)]
theorem z97 (N:Nat):PnOk Tryd.prog glob (z3g N):=PnOk.cons (z2v N) (PnOk.cons (zu N) (PnOk.nil))
def z5x (N:Nat)(p:DT3)(from_:Int)(b:Int)(k0:Bool->Option (Int×(Int×Unit))):Option (Int×(Int×Unit)) :=
 cond (decide (b<(97:Int)))
 (k0 true)
 (k0 (decide ((102:Int)<b)))
def z1k7 (N:Nat)(x:z1e z106)(K:ExP->List A->Option (Int×(Int×Unit))):Option (Int×(Int×Unit)) :=
 z5x N x.1 x.2.1 x.2.2.1 (fun a3=>(K .normal (mkS [(0,.box (.pair .str TT0)),(0,.v (.int .i64)),(3,.v (.int .u8)),(18,.v .bool)] 6 (x.1,x.2.1,x.2.2.1,a3,()))))
def z1ht (N:Nat):HdP (Int×(Int×Unit)):=fun st K=>(unS z106 25 (restr [5,0,1] 0 st)).bind fun x=>z1k7 N x K
def t2_62 (N:Nat):zbd (Int×(Int×Unit)):=[]
theorem z1et {N:Nat}{c:Ctx}(hb:Base Tryd.prog (z1om N) c)(hP:PnOk Tryd.prog glob (z3g N)):z22 Tryd.prog c (zd zo1 [0,0,1,1,1,1]) (z1ht N) :=
 z26 (s:=z106) (m:=25) (g:=z1k7 N) [5,0,1] (z1n hb hP N (t2_62 N) L_62 zo1 TabOkP.nil [0,0,1,1,1,1] _ rfl) (fun x K=>by kernel_rfl)
def z5y (N:Nat)(p:DT3)(from_:Int)(b:Int)(k0:(Int×(Int×Unit))->Option (Int×(Int×Unit)))(k1:Option (Int×(Int×Unit))):Option (Int×(Int×Unit)) :=
 z5x N p from_ b
 (fun x24=>cond x24
 (k0 ((2:Int),(from_,())))
 (k1))
def z1kx (N:Nat)(x:z1e z106)(K:ExP->List A->Option (Int×(Int×Unit))):Option (Int×(Int×Unit)) :=
 z5y N x.1 x.2.1 x.2.2.1 (fun a0=>(K (.pan 34) (mkS [(0,.v TT0)] 0 (a0,())))) (K .normal (mkS [(0,.box (.pair .str TT0)),(4,.v (.int .u8))] 25 (x.1,x.2.2.1,())))
def z1ij (N:Nat):HdP (Int×(Int×Unit)):=fun st K=>(unS z106 25 (restr [5,0,1] 0 st)).bind fun x=>z1kx N x K
def t1_62 (N:Nat):zbd (Int×(Int×Unit)):=[([0,0,1,1,1,1],z1ht N)]
theorem z1fj {N:Nat}{c:Ctx}(hb:Base Tryd.prog (z1om N) c)(hP:PnOk Tryd.prog glob (z3g N)):z22 Tryd.prog c (zd zo1 [0,1,1,1,1]) (z1ij N) :=
 z26 (s:=z106) (m:=25) (g:=z1kx N) [5,0,1] (z1n hb hP N (t1_62 N) L_62 zo1 (TabOkP.cons (z1et hb hP) TabOkP.nil) [0,1,1,1,1] _ rfl) (fun x K=>by kernel_rfl)
def z38 (N:Nat)(p:DT3)(from_:Int):Option (Int×(Int×Unit)) :=
 orP ((z1i N p)) (fun z=>some z)
 ((z14 N p).bind fun y =>
 (z4w N y.1).bind fun y1 =>
 cond y1
 (none)
 (z5y N (y.2.1.1,((IntKind.wrap IntKind.i64 (y.2.1.2.1+(1:Int))),y.2.1.2.2)) from_ y.1
 (fun p1=>some p1)
 (none)))
def t_62 (N:Nat):zbd (Int×(Int×Unit)):=[([0,1,1,1,1],z1ij N)]
theorem z19p (N:Nat)(x:z1e z1ct):zgh (z1om N) (z3g N) N (t_62 N) L_62 Tryd.f69 34 TT0 (mkS z1ct 0 x) (fun z=>some z)=z38 N x.1 x.2.1:=by kernel_rfl
def z96 (N:Nat):List A->PnRes:=zgg z1ct (fun x=>z38 N x.1 x.2.1) (fun z=>⟨TT0,z⟩)
theorem zeu (N:Nat):ContractP Tryd.prog glob 69 34 (z96 N) :=
 ContractP.of (E:=z1om N) (Pn:=z3g N) (H:=t_62 N) (L:=L_62) (N:=N) (body:=zo1) (t:=TT0) (z1n6 N) (z97 N) Tryd.func69 (by kernel_rfl) (by decide) (fun _ hb=>(TabOkP.cons (z1fj hb (z97 N)) TabOkP.nil)) (fun x y h=>by rw[z19p];exact h)
def zvs:Code:=(Tryd.f59.body).getD .skip
def L_63:List (List Nat×List Nat):=[([0],[0,2]),([0,1],[0,2,4]),([0,1,1],[0,2,4]),([0,1,1,1],[0,5,2,4]),([0,1,1,1,1],[5,2,0,4]),([0,0,0,1,1,1,1,1],[22,2,0,5,4]),([1,0,0,1,1,1,1,1],[5,2,0]),([0,1,1,0,0,1,1,1,1,1],[26,2,0,5,4]),([1,1,1,0,0,1,1,1,1,1],[5,2,0]),([0,1,1,1,1,0,0,1,1,1,1,1],[30,0,4,2,5]),([1,1,1,1,1,0,0,1,1,1,1,1],[5,2,0]),([0,1,1,1,1,1,1,0,0,1,1,1,1,1],[42,0,4,5,2]),([1,1,1,1,1,1,1,0,0,1,1,1,1,1],[5,2,0]),([0,1,1,1,1,1,1,1,0,0,1,1,1,1,1],[5,2,0]),([0,0,1,1,1,1,1,0,0,1,1,1,1,1],[6,0,4,2]),([1,0,1,1,1,1,1,0,0,1,1,1,1,1],[5,2,0]),([0,0,1,1,1,0,0,1,1,1,1,1],[2,3,0]),([1,0,1,1,1,0,0,1,1,1,1,1],[2,3,0]),([0,0,1,0,0,1,1,1,1,1],[2,3,0]),([1,0,1,0,0,1,1,1,1,1],[2,3,0]),([0,1,1,1,1,1],[5,2,0]),(z107,[2,3,0]),(z1d1,[2,3,0])]
def E_63 (N:Nat):Env:=z24 tys glob [(31,z2s N),(37,z2n N),(38,z7m N),(61,z1j N),(68,z13 N),(69,z86 N)] [] [] [0] false [] []
theorem z1n5 (N:Nat):EnvOk Tryd.prog (E_63 N):=zg mixed z12 (FnsOk.cons (z3x N) (FnsOk.cons (z3o N) (FnsOk.cons (zb0 N) (FnsOk.cons (z1y N) (FnsOk.cons (z1d N) (FnsOk.cons (zcc N) (FnsOk.nil))))))) (ItsOk.nil)
def z3m (N:Nat):PnT:=pnT [(69,34,z96 N),(61,34,z2g N),(68,34,z1u N),(22,34,zm N)]
theorem z75 (N:Nat):PnOk Tryd.prog glob (z3m N):=PnOk.cons (zeu N) (PnOk.cons (z3t N) (PnOk.cons (z2v N) (PnOk.cons (zu N) (PnOk.nil))))
def z4l (N:Nat)(p:DT3)(set_:(List Int))(from_:Int)(b:Int)(k0:(List Int)->Bool->Option (Int×(Int×Unit)))(k1:(Int×(Int×Unit))->Option (Int×(Int×Unit)))(k2:DT3->Int->Option (Int×(Int×Unit))):Option (Int×(Int×Unit)) :=
 cond (b == (100:Int))
 ((z1w N (48:Int) (57:Int)).bind fun y =>
 k0 y true)
 (cond (b == (119:Int))
 ((z3n N ((48:UInt8)::(49:UInt8)::(50:UInt8)::(51:UInt8)::(52:UInt8)::(53:UInt8)::(54:UInt8)::(55:UInt8)::(56:UInt8)::(57:UInt8)::(65:UInt8)::(66:UInt8)::(67:UInt8)::(68:UInt8)::(69:UInt8)::(70:UInt8)::(71:UInt8)::(72:UInt8)::(73:UInt8)::(74:UInt8)::(75:UInt8)::(76:UInt8)::(77:UInt8)::(78:UInt8)::(79:UInt8)::(80:UInt8)::(81:UInt8)::(82:UInt8)::(83:UInt8)::(84:UInt8)::(85:UInt8)::(86:UInt8)::(87:UInt8)::(88:UInt8)::(89:UInt8)::(90:UInt8)::(95:UInt8)::(97:UInt8)::(98:UInt8)::(99:UInt8)::(100:UInt8)::(101:UInt8)::(102:UInt8)::(103:UInt8)::(104:UInt8)::(105:UInt8)::(106:UInt8)::(107:UInt8)::(108:UInt8)::(109:UInt8)::(110:UInt8)::(111:UInt8)::(112:UInt8)::(113:UInt8)::(114:UInt8)::(115:UInt8)::(116:UInt8)::(117:UInt8)::(118:UInt8)::(119:UInt8)::(120:UInt8)::(121:UInt8)::(122:UInt8)::([]:List UInt8))).bind fun y1 =>
 k0 y1 true)
 (cond (b == (120:Int))
 (orP ((z38 N p from_)) (fun z=>k1 z)
 ((z3c N p from_).bind fun y2 =>
 orP ((z38 N y2.2.1 from_)) (fun z1=>k1 z1)
 ((z3c N y2.2.1 from_).bind fun y3 =>
 k2 y3.2.1 (bitsOp Go.BinOp.or IntKind.u8 (shlI IntKind.u8 y2.1 (4:Int)) y3.1))))
 (cond (decide ((Go.Lib.indexByte ([(92:UInt8),(46:UInt8),(91:UInt8),(93:UInt8),(40:UInt8),(41:UInt8),(123:UInt8),(125:UInt8),(124:UInt8),(42:UInt8),(43:UInt8),(63:UInt8),(45:UInt8),(94:UInt8)]:List UInt8) (Nat.toUInt8 (Int.toNat b)))<(0:Int)))
 (k1 ((2:Int),(from_,())))
 (k2 p b))))
def z1kw (N:Nat)(x:z1e z1cz)(K:ExP->List A->Option (Int×(Int×Unit))):Option (Int×(Int×Unit)) :=
 z4l N x.1 x.2.1 x.2.2.1 x.2.2.2.1 (fun a1 a2=>(K .ret (mkS SQ42 48 (x.1,a1,a2,())))) (fun a0=>(K (.pan 34) (mkS [(0,.v TT0)] 0 (a0,())))) (fun a0 a2=>(K .normal (mkS [(0,.box (.pair .str TT0)),(1,.box (.arr 4 (.int .u64))),(2,.v (.int .u8))] 46 (a0,x.2.1,a2,()))))
def z1ii (N:Nat):HdP (Int×(Int×Unit)):=fun st K=>(unS z1cz 46 (restr [5,2,0,4] 0 st)).bind fun x=>z1kw N x K
def t1_63 (N:Nat):zbd (Int×(Int×Unit)):=[]
theorem z1fi {N:Nat}{c:Ctx}(hb:Base Tryd.prog (E_63 N) c)(hP:PnOk Tryd.prog glob (z3m N)):z22 Tryd.prog c (zd zvs [0,1,1,1,1,1]) (z1ii N) :=
 z26 (s:=z1cz) (m:=46) (g:=z1kw N) [5,2,0,4] (z1n hb hP N (t1_63 N) L_63 zvs TabOkP.nil [0,1,1,1,1,1] _ rfl) (fun x K=>by kernel_rfl)
def z28 (N:Nat)(p:DT3):Option (Int×(Int×Unit)) :=
 orP ((z16 N p (92:Int))) (fun z=>some z)
 ((zr N p (92:Int)).bind fun y =>
 orP ((z1i N y.2.1)) (fun z1=>some z1)
 ((z14 N y.2.1).bind fun y1 =>
 z4l N (y1.2.1.1,((IntKind.wrap IntKind.i64 (y1.2.1.2.1+(1:Int))),y1.2.1.2.2)) ([(0:Int),(0:Int),(0:Int),(0:Int)]:List Int) p.2.1 y1.1
 (fun set_ class_=>none)
 (fun p1=>some p1)
 (fun p2 b=>(z1w N b b).bind fun y2 =>
 none)))
def t_63 (N:Nat):zbd (Int×(Int×Unit)):=[([0,1,1,1,1,1],z1ii N)]
theorem z19o (N:Nat)(x:z1e SQ0):zgh (E_63 N) (z3m N) N (t_63 N) L_63 Tryd.f59 34 TT0 (mkS SQ0 0 x) (fun z=>some z)=z28 N x.1:=by kernel_rfl
def z4a (N:Nat):List A->PnRes:=zgg SQ0 (fun x=>z28 N x.1) (fun z=>⟨TT0,z⟩)
theorem z7r (N:Nat):ContractP Tryd.prog glob 59 34 (z4a N) :=
 ContractP.of (E:=E_63 N) (Pn:=z3m N) (H:=t_63 N) (L:=L_63) (N:=N) (body:=zvs) (t:=TT0) (z1n5 N) (z75 N) Tryd.func59 (by kernel_rfl) (by decide) (fun _ hb=>(TabOkP.cons (z1fi hb (z75 N)) TabOkP.nil)) (fun x y h=>by rw[z19o];exact h)
def zo0:Code:=(Tryd.f76.body).getD .skip
def L_64:List (List Nat×List Nat):=[([0],[0,2]),([0,1],[4,0,2]),([0,0,1,1],[7,0,2,4]),([0,0,1,0,1,1],[8,0,2,7,4]),([1,0,1,0,1,1],[0,4,2]),([0,0,1,1,0,1,0,1,1],[14,0,4,2,7]),([1,0,1,1,0,1,0,1,1],[14,0,4,2]),([0,1,1,0,1,1,0,1,0,1,1],[14,0,4,2,7]),([1,1,1,0,1,1,0,1,0,1,1],[14,0,4,2]),([0,1,1,1,1,0,1,1,0,1,0,1,1],[14,0,4,2,7]),([1,1,1,1,1,0,1,1,0,1,0,1,1],[14,0,4,2]),([1,1,1,1,1,1,0,1,1,0,1,0,1,1],[14,0,4,2]),([1,1,1,0,1,0,1,1],[0,4,2]),([0,1,1,1,0,1,0,1,1],[0,4,2]),([0,0,1,0,1,0,1,1],[2,3,0]),([1,0,1,0,1,0,1,1],[2,3,0]),([1,0,1,1],[0,4,2]),([0,1,1,1],[4,2,0]),([0,1,1,1,1],[2,3,0]),([1,1,1,1,1],[2,3,0])]
def z1ol (N:Nat):Env:=z24 tys glob [(37,z2n N),(59,z33 N),(68,z13 N)] [] [] [0] false [] []
theorem z1n4 (N:Nat):EnvOk Tryd.prog (z1ol N):=zg mixed z12 (FnsOk.cons (z3o N) (FnsOk.cons (z4g N) (FnsOk.cons (z1d N) (FnsOk.nil)))) (ItsOk.nil)
def z32 (N:Nat):PnT:=pnT [(59,34,z4a N),(68,34,z1u N),(22,34,zm N)]
theorem z8c (N:Nat):PnOk Tryd.prog glob (z32 N):=PnOk.cons (z7r N) (PnOk.cons (z2v N) (PnOk.cons (zu N) (PnOk.nil)))
def z50 (N:Nat)(p:DT3)(set_:(List Int))(b:Int)(x7:Int)(k0:Bool->Option (Int×(Int×Unit))):Option (Int×(Int×Unit)) :=
 cond (x7 == (91:Int))
 (k0 (x7 == (91:Int)))
 (cond (x7 == (93:Int))
 (k0 (x7 == (93:Int)))
 (cond (x7 == (45:Int))
 (k0 (x7 == (45:Int)))
 (k0 (x7 == (94:Int)))))
def z1k6 (N:Nat)(x:z1e z1cy)(K:ExP->List A->Option (Int×(Int×Unit))):Option (Int×(Int×Unit)) :=
 z50 N x.1 x.2.1 x.2.2.1 x.2.2.2.1 (fun a3=>(K .normal (mkS SQ61 20 (x.1,x.2.1,x.2.2.1,a3,()))))
def z1hs (N:Nat):HdP (Int×(Int×Unit)):=fun st K=>(unS z1cy 27 (restr [7,0,4,2] 0 st)).bind fun x=>z1k6 N x K
def t2_64 (N:Nat):zbd (Int×(Int×Unit)):=[]
theorem z1es {N:Nat}{c:Ctx}(hb:Base Tryd.prog (z1ol N) c)(hP:PnOk Tryd.prog glob (z32 N)):z22 Tryd.prog c (zd zo0 z17u) (z1hs N) :=
 z26 (s:=z1cy) (m:=27) (g:=z1k6 N) [7,0,4,2] (z1n hb hP N (t2_64 N) L_64 zo0 TabOkP.nil z17u _ rfl) (fun x K=>by kernel_rfl)
def z51 (N:Nat)(p:DT3)(set_:(List Int))(b:Int)(k0:(Int×(Int×Unit))->Option (Int×(Int×Unit)))(k1:DT3->(List Int)->Bool->Option (Int×(Int×Unit)))(k2:Option (Int×(Int×Unit))):Option (Int×(Int×Unit)) :=
 cond (b == (92:Int))
 (orP ((z28 N p)) (fun z=>k0 z)
 ((z25 N p).bind fun y =>
 k1 y.2.1 y.1.1 y.1.2.1))
 (z50 N p set_ b b
 (fun x14=>cond x14
 (k0 ((2:Int),(p.2.1,())))
 (k2)))
def z1kv (N:Nat)(x:z1e z17s)(K:ExP->List A->Option (Int×(Int×Unit))):Option (Int×(Int×Unit)) :=
 z51 N x.1 x.2.1 x.2.2.1 (fun a0=>(K (.pan 34) (mkS [(0,.v TT0)] 0 (a0,())))) (fun a0 a1 a2=>(K .ret (mkS SQ42 31 (a0,a1,a2,())))) (K .normal (mkS z17s 30 (x.1,x.2.1,x.2.2.1,())))
def z1ih (N:Nat):HdP (Int×(Int×Unit)):=fun st K=>(unS z17s 30 (restr [4,0,2] 0 st)).bind fun x=>z1kv N x K
def t1_64 (N:Nat):zbd (Int×(Int×Unit)):=[(z17u,z1hs N)]
theorem z1fh {N:Nat}{c:Ctx}(hb:Base Tryd.prog (z1ol N) c)(hP:PnOk Tryd.prog glob (z32 N)):z22 Tryd.prog c (zd zo0 [0,1,1]) (z1ih N) :=
 z26 (s:=z17s) (m:=30) (g:=z1kv N) [4,0,2] (z1n hb hP N (t1_64 N) L_64 zo0 (TabOkP.cons (z1es hb hP) TabOkP.nil) [0,1,1] _ rfl) (fun x K=>by kernel_rfl)
def z2t (N:Nat)(p:DT3):Option (Int×(Int×Unit)) :=
 orP ((z1i N p)) (fun z=>some z)
 ((z14 N p).bind fun y =>
 z51 N y.2.1 ([(0:Int),(0:Int),(0:Int),(0:Int)]:List Int) y.1
 (fun p1=>some p1)
 (fun p2 set_ class_=>none)
 ((z1w N y.1 y.1).bind fun y1 =>
 none))
def t_64 (N:Nat):zbd (Int×(Int×Unit)):=[([0,1,1],z1ih N)]
theorem z19n (N:Nat)(x:z1e SQ0):zgh (z1ol N) (z32 N) N (t_64 N) L_64 Tryd.f76 34 TT0 (mkS SQ0 0 x) (fun z=>some z)=z2t N x.1:=by kernel_rfl
def z8b (N:Nat):List A->PnRes:=zgg SQ0 (fun x=>z2t N x.1) (fun z=>⟨TT0,z⟩)
theorem zdz (N:Nat):ContractP Tryd.prog glob 76 34 (z8b N) :=
 ContractP.of (E:=z1ol N) (Pn:=z32 N) (H:=t_64 N) (L:=L_64) (N:=N) (body:=zo0) (t:=TT0) (z1n4 N) (z8c N) Tryd.func76 (by kernel_rfl) (by decide) (fun _ hb=>(TabOkP.cons (z1fh hb (z8c N)) TabOkP.nil)) (fun x y h=>by rw[z19n];exact h)
def zfb:Code:=(Tryd.f66.body).getD .skip
def z1d6:List (List Nat×List Nat):=[([0],[0,2]),([0,1],[4,0,3,2]),([0,0,1,1],[17,3,2,0]),([1,0,1,1],[0,3,2]),([0,0,1,0,1,1],[2,0]),([1,0,1,0,1,1],[2,0]),([0,1,1,1],[0,3,5,2]),([0,1,1,1,1],[4,6,3,0,5,2]),(zqd,[35,0,5,3,6,2]),(z17t,[3,6,2,0]),(z1d3,[3,6,2,0]),(z107,[2,0]),(z1d1,[2,0])]
def z1ch (N:Nat):Env:=z24 tys glob [(29,z1h N),(36,z5d N),(37,z2n N),(76,z71 N)] [] [] [0] false [] []
theorem z1n3 (N:Nat):EnvOk Tryd.prog (z1ch N):=zg mixed z12 (FnsOk.cons (z1x N) (FnsOk.cons (z8o N) (FnsOk.cons (z3o N) (FnsOk.cons (zb3 N) (FnsOk.nil))))) (ItsOk.nil)
def z1s (N:Nat):PnT:=pnT [(76,34,z8b N),(22,34,zm N)]
theorem z4t (N:Nat):PnOk Tryd.prog glob (z1s N):=PnOk.cons (zdz N) (PnOk.cons (zu N) (PnOk.nil))
def z56 (N:Nat)(p:DT3)(x2:(List Int))(first:(List Int))(class_:Bool)(k0:DT3->Bool->Option (Int×(Int×Unit))):Option (Int×(Int×Unit)) :=
 cond class_
 (k0 p true)
 ((zq N p (45:Int)).bind fun y =>
 k0 y.2.1 (!y.1))
def z1k5 (N:Nat)(x:z1e SQ5)(K:ExP->List A->Option (Int×(Int×Unit))):Option (Int×(Int×Unit)) :=
 z56 N x.1 x.2.1 x.2.2.1 x.2.2.2.1 (fun a0 a3=>(K .normal (mkS SQ55 28 (a0,x.2.1,x.2.2.1,a3,()))))
def z1hr (N:Nat):HdP (Int×(Int×Unit)):=fun st K=>(unS SQ5 41 (restr [4,0,3,2] 0 st)).bind fun x=>z1k5 N x K
def t2_65 (N:Nat):zbd (Int×(Int×Unit)):=[]
theorem z1er {N:Nat}{c:Ctx}(hb:Base Tryd.prog (z1ch N) c)(hP:PnOk Tryd.prog glob (z1s N)):z22 Tryd.prog c (zd zfb [0,0,1,1]) (z1hr N) :=
 z26 (s:=SQ5) (m:=41) (g:=z1k5 N) [4,0,3,2] (z1n hb hP N (t2_65 N) z1d6 zfb TabOkP.nil [0,0,1,1] _ rfl) (fun x K=>by kernel_rfl)
def z57 (N:Nat)(p:DT3)(x2:(List Int))(first:(List Int))(class_:Bool)(k0:DT3->Option (Int×(Int×Unit)))(k1:DT3->Option (Int×(Int×Unit))):Option (Int×(Int×Unit)) :=
 z56 N p x2 first class_
 (fun p1 x17=>cond x17
 (k0 p1)
 (k1 p1))
def z1ku (N:Nat)(x:z1e SQ5)(K:ExP->List A->Option (Int×(Int×Unit))):Option (Int×(Int×Unit)) :=
 z57 N x.1 x.2.1 x.2.2.1 x.2.2.2.1 (fun a0=>(K .ret (mkS [(0,.box (.pair .str TT0)),(1,.box (.arr 4 (.int .u64)))] 43 (a0,x.2.2.1,())))) (fun a0=>(K .normal (mkS SQ63 42 (a0,x.2.1,x.2.2.1,()))))
def z1ig (N:Nat):HdP (Int×(Int×Unit)):=fun st K=>(unS SQ5 41 (restr [4,0,3,2] 0 st)).bind fun x=>z1ku N x K
def t1_65 (N:Nat):zbd (Int×(Int×Unit)):=[([0,0,1,1],z1hr N)]
theorem z1fg {N:Nat}{c:Ctx}(hb:Base Tryd.prog (z1ch N) c)(hP:PnOk Tryd.prog glob (z1s N)):z22 Tryd.prog c (zd zfb [0,1,1]) (z1ig N) :=
 z26 (s:=SQ5) (m:=41) (g:=z1ku N) [4,0,3,2] (z1n hb hP N (t1_65 N) z1d6 zfb (TabOkP.cons (z1er hb hP) TabOkP.nil) [0,1,1] _ rfl) (fun x K=>by kernel_rfl)
def z54 (N:Nat)(p:DT3)(x2:(List Int))(first:(List Int))(class_:Bool)(from_:Int)(last:(List Int))(k0:Bool->Option (Int×(Int×Unit))):Option (Int×(Int×Unit)) :=
 cond class_
 (k0 true)
 ((z1c N last).bind fun y =>
 (z1c N first).bind fun y1 =>
 k0 (decide (y<y1)))
def z1jn (N:Nat)(x:z1e SQ2)(K:ExP->List A->Option (Int×(Int×Unit))):Option (Int×(Int×Unit)) :=
 z54 N x.1 x.2.1 x.2.2.1 x.2.2.2.1 x.2.2.2.2.1 x.2.2.2.2.2.1 (fun a5=>(K .normal (mkS SQ39 10 (x.1,x.2.1,x.2.2.1,x.2.2.2.2.1,x.2.2.2.2.2.1,a5,()))))
def z1h9 (N:Nat):HdP (Int×(Int×Unit)):=fun st K=>(unS SQ2 39 (restr [4,6,3,0,5,2] 0 st)).bind fun x=>z1jn N x K
def t4_65 (N:Nat):zbd (Int×(Int×Unit)):=[]
theorem z1e9 {N:Nat}{c:Ctx}(hb:Base Tryd.prog (z1ch N) c)(hP:PnOk Tryd.prog glob (z1s N)):z22 Tryd.prog c (zd zfb zqd) (z1h9 N) :=
 z26 (s:=SQ2) (m:=39) (g:=z1jn N) [4,6,3,0,5,2] (z1n hb hP N (t4_65 N) z1d6 zfb TabOkP.nil zqd _ rfl) (fun x K=>by kernel_rfl)
def z55 (N:Nat)(p:DT3)(x2:(List Int))(first:(List Int))(class_:Bool)(from_:Int)(last:(List Int))(k0:(Int×(Int×Unit))->Option (Int×(Int×Unit)))(k1:Option (Int×(Int×Unit))):Option (Int×(Int×Unit)) :=
 z54 N p x2 first class_ from_ last
 (fun x35=>cond x35
 (k0 ((2:Int),(from_,())))
 (k1))
def z1jt (N:Nat)(x:z1e SQ2)(K:ExP->List A->Option (Int×(Int×Unit))):Option (Int×(Int×Unit)) :=
 z55 N x.1 x.2.1 x.2.2.1 x.2.2.2.1 x.2.2.2.2.1 x.2.2.2.2.2.1 (fun a0=>(K (.pan 34) (mkS [(0,.v TT0)] 0 (a0,())))) (K .normal (mkS SQ48 39 (x.1,x.2.1,x.2.2.1,x.2.2.2.2.2.1,())))
def z1hf (N:Nat):HdP (Int×(Int×Unit)):=fun st K=>(unS SQ2 39 (restr [4,6,3,0,5,2] 0 st)).bind fun x=>z1jt N x K
def t3_65 (N:Nat):zbd (Int×(Int×Unit)):=[(zqd,z1h9 N)]
theorem z1ef {N:Nat}{c:Ctx}(hb:Base Tryd.prog (z1ch N) c)(hP:PnOk Tryd.prog glob (z1s N)):z22 Tryd.prog c (zd zfb [0,1,1,1,1,1]) (z1hf N) :=
 z26 (s:=SQ2) (m:=39) (g:=z1jt N) [4,6,3,0,5,2] (z1n hb hP N (t3_65 N) z1d6 zfb (TabOkP.cons (z1e9 hb hP) TabOkP.nil) [0,1,1,1,1,1] _ rfl) (fun x K=>by kernel_rfl)
def z2w (N:Nat)(p:DT3):Option (Int×(Int×Unit)) :=
 orP ((z2t N p)) (fun z=>some z)
 ((z2u N p).bind fun y =>
 z57 N y.2.1 ([(0:Int),(0:Int),(0:Int),(0:Int)]:List Int) y.1.1 y.1.2.1
 (fun p1=>none)
 (fun p2=>orP ((z2t N p2)) (fun z1=>some z1)
 ((z2u N p2).bind fun y1 =>
 z55 N y1.2.1 ([(0:Int),(0:Int),(0:Int),(0:Int)]:List Int) y.1.1 y1.1.2.1 p2.2.1 y1.1.1
 (fun p3=>some p3)
 ((z1c N y.1.1).bind fun y2 =>
 (z1c N y1.1.1).bind fun y3 =>
 (z1w N (IntKind.wrap IntKind.u8 y2) (IntKind.wrap IntKind.u8 y3)).bind fun y4 =>
 none))))
def t_65 (N:Nat):zbd (Int×(Int×Unit)):=[([0,1,1],z1ig N),([0,1,1,1,1,1],z1hf N)]
theorem z19m (N:Nat)(x:z1e SQ0):zgh (z1ch N) (z1s N) N (t_65 N) z1d6 Tryd.f66 34 TT0 (mkS SQ0 0 x) (fun z=>some z)=z2w N x.1:=by kernel_rfl
def z8f (N:Nat):List A->PnRes:=zgg SQ0 (fun x=>z2w N x.1) (fun z=>⟨TT0,z⟩)
theorem ze0 (N:Nat):ContractP Tryd.prog glob 66 34 (z8f N) :=
 ContractP.of (E:=z1ch N) (Pn:=z1s N) (H:=t_65 N) (L:=z1d6) (N:=N) (body:=zfb) (t:=TT0) (z1n3 N) (z4t N) Tryd.func66 (by kernel_rfl) (by decide) (fun _ hb=>(TabOkP.cons (z1fg hb (z4t N)) (TabOkP.cons (z1ef hb (z4t N)) TabOkP.nil))) (fun x y h=>by rw[z19m];exact h)
def zvr:Code:=(Tryd.f58.body).getD .skip
def L_66:List (List Nat×List Nat):=[([0],[0,2]),([0,1],[0,2]),([0,1,1],[0,3,2]),([0,1,1,1],[0,4,3,2]),([0,0,1,1,1,1],[0,4,3,2]),([0,0,0,0,0,1,1,1,1],[13,4,0,3,2]),([1,0,0,0,0,1,1,1,1],[4,0,3,2]),(PQ85,[3,4,2,0]),([0,1,0,0,0,1,1,1,1],[0,4,3,2]),([1,0,0,0,1,1,1,1],[0,4,3,2]),([0,1,1,1,1],[3,4,2,0]),(zqd,[18,4,2,0]),(z17t,[4,2,0]),([0,0,1,0,1,1,1,1,1],[2,0]),([1,0,1,0,1,1,1,1,1],[2,0]),(z107,[2,0]),(z1d1,[2,0])]
def E_66 (N:Nat):Env:=z24 tys glob [(29,z1h N),(54,z9s N),(61,z1j N),(66,z73 N),(67,zdm N)] [] [] [0] false [] []
theorem z1n2 (N:Nat):EnvOk Tryd.prog (E_66 N):=zg mixed z12 (FnsOk.cons (z1x N) (FnsOk.cons (zdn N) (FnsOk.cons (z1y N) (FnsOk.cons (zb4 N) (FnsOk.cons (zjt N) (FnsOk.nil)))))) (ItsOk.nil)
def z35 (N:Nat):PnT:=pnT [(66,34,z8f N),(61,34,z2g N)]
theorem z6a (N:Nat):PnOk Tryd.prog glob (z35 N):=PnOk.cons (ze0 N) (PnOk.cons (z3t N) (PnOk.nil))
def z2z (N:Nat)(x2:(List Int))(not_:Bool)(p:DT3)(set_:(List Int))(rec:DT3->(List Int)->Option (Int×(Int×Unit)))(k0:(Int×(Int×Unit))->Option (Int×(Int×Unit)))(k1:DT3->(List Int)->Option (Int×(Int×Unit))):Option (Int×(Int×Unit)) :=
 (zq N p (93:Int)).bind fun y =>
 cond (!y.1)
 (orP ((z2w N y.2.1)) (fun z=>k0 z)
 ((z2x N y.2.1).bind fun y1 =>
 (za5 N set_ y1.1).bind fun y2 =>
 rec y1.2.1 y2))
 (k1 y.2.1 set_)
def z6r (N:Nat)(p:DT3)(x2:(List Int))(not_:Bool)(set_:(List Int))(k0:(Int×(Int×Unit))->Option (Int×(Int×Unit)))(k1:DT3->(List Int)->Option (Int×(Int×Unit))):Option (Int×(Int×Unit)) :=
 iter (fun (v:(DT3×(List Int))) r=>z2z N x2 not_ v.1 v.2 (fun p set_=>(r (p,set_))) k0 k1) N (p,set_)
def z1kt (N:Nat)(i:((List Int)×Bool))(v:(DT3×(List Int)))(r:(DT3×(List Int))->Option (Int×(Int×Unit)))(K:ExP->List A->Option (Int×(Int×Unit))):Option (Int×(Int×Unit)) :=
 z2z N i.1 i.2 v.1 v.2 (fun p set_=>(r (p,set_))) (fun a0=>(K (.pan 34) (mkS [(0,.v TT0)] 0 (a0,())))) (fun a0 a3=>(K (.exit 0) (mkS z1d0 17 (a0,i.1,i.2,a3,()))))
def z1if (N:Nat):HdP (Int×(Int×Unit)):=fun st K=>(unS z1d0 17 (restr [0,4,3,2] 0 st)).bind fun x=>iter (fun v r=>z1kt N ((fun x=>(x.2.1,x.2.2.1)) x) v r K) N ((fun x=>(x.1,x.2.2.2.1)) x)
def t1_66 (N:Nat):zbd (Int×(Int×Unit)):=[]
theorem z1ff {N:Nat}{c:Ctx}(hb:Base Tryd.prog (E_66 N) c)(hP:PnOk Tryd.prog glob (z35 N)):z22 Tryd.prog c (zd zvr [0,0,1,1,1,1]) (z1if N) :=
 zm3 (s:=z1d0) (m:=17) (z1kt N) [0,4,3,2] N (fun x=>(x.2.1,x.2.2.1)) (fun x=>(x.1,x.2.2.2.1)) (fun i v=>(v.1,i.1,i.2,v.2,())) (fun _=>rfl) (z1n hb hP N (t1_66 N) L_66 zvr TabOkP.nil [0,0,0,1,1,1,1] _ rfl) (fun i v r K=>by kernel_rfl)
def z2h (N:Nat)(p:DT3):Option (Int×(Int×Unit)) :=
 orP ((z16 N p (91:Int))) (fun z=>some z)
 ((zr N p (91:Int)).bind fun y =>
 (zq N y.2.1 (94:Int)).bind fun y1 =>
 orP ((z2w N y1.2.1)) (fun z1=>some z1)
 ((z2x N y1.2.1).bind fun y2 =>
 z6r N y2.2.1 ([(0:Int),(0:Int),(0:Int),(0:Int)]:List Int) y1.1 y2.1
 (fun p1=>some p1)
 (fun p2 set_=>cond y1.1
 ((z7d N set_).bind fun y3 =>
 none)
 (none))))
def t_66 (N:Nat):zbd (Int×(Int×Unit)):=[([0,0,1,1,1,1],z1if N)]
theorem z19l (N:Nat)(x:z1e SQ0):zgh (E_66 N) (z35 N) N (t_66 N) L_66 Tryd.f58 34 TT0 (mkS SQ0 0 x) (fun z=>some z)=z2h N x.1:=by kernel_rfl
def z69 (N:Nat):List A->PnRes:=zgg SQ0 (fun x=>z2h N x.1) (fun z=>⟨TT0,z⟩)
theorem zbi (N:Nat):ContractP Tryd.prog glob 58 34 (z69 N) :=
 ContractP.of (E:=E_66 N) (Pn:=z35 N) (H:=t_66 N) (L:=L_66) (N:=N) (body:=zvr) (t:=TT0) (z1n2 N) (z6a N) Tryd.func58 (by kernel_rfl) (by decide) (fun _ hb=>(TabOkP.cons (z1ff hb (z6a N)) TabOkP.nil)) (fun x y h=>by rw[z19l];exact h)
def znz:Code:=(Tryd.f51.body).getD .skip
def L_67:List (List Nat×List Nat):=[([0],[0]),([0,1],[0,4]),([0,1,1],[2,0,4]),([0,1,1,1],[0,2,3,4]),([0,0,1,1,1,1],[13,0,2,3,4]),([1,0,1,1,1,1],[3,2,0,4]),([0,0,0,1,0,1,1,1,1],[15,2,0]),([1,0,0,1,0,1,1,1,1],[0,2]),([0,0,1,0,0,1,0,1,1,1,1],[2,3,0]),([1,0,1,0,0,1,0,1,1,1,1],[2,3,0]),([0,1,0,1,0,1,1,1,1],[0,2,4]),([1,1,0,1,0,1,1,1,1],[3,2,0,4]),(zqd,[26,0,4,2,3]),(z17t,[0,2,3]),(z1d3,[0,2,3]),(z107,[2,3,0]),(z17w,[2,3,0]),(z17v,[2,3,0])]
def z1ok (N:Nat):Env:=z24 tys glob [(29,z1h N),(60,z7z N),(61,z1j N)] [] [] [0] false [] []
theorem z1n1 (N:Nat):EnvOk Tryd.prog (z1ok N):=zg mixed z12 (FnsOk.cons (z1x N) (FnsOk.cons (zcb N) (FnsOk.cons (z1y N) (FnsOk.nil)))) (ItsOk.nil)
def z2i (N:Nat):PnT:=pnT [(60,34,z95 N),(61,34,z2g N),(22,34,zm N)]
theorem z4c (N:Nat):PnOk Tryd.prog glob (z2i N):=PnOk.cons (zet N) (PnOk.cons (z3t N) (PnOk.cons (zu N) (PnOk.nil)))
def z4m (N:Nat)(p:DT3)(low:Int)(high:Int)(from_:Int)(k0:DT3->Int->Option (Int×(Int×Unit)))(k1:(Int×(Int×Unit))->Option (Int×(Int×Unit)))(k2:DT3->Int->Int->Option (Int×(Int×Unit))):Option (Int×(Int×Unit)) :=
 (zq N p (44:Int)).bind fun y =>
 cond y.1
 ((zq N y.2.1 (125:Int)).bind fun y1 =>
 cond y1.1
 (k0 y1.2.1 (-(1:Int)))
 (orP ((z37 N y1.2.1)) (fun z=>k1 z)
 ((z3b N y1.2.1).bind fun y2 =>
 k2 y2.2.1 y2.1 y1.2.1.2.1)))
 (k2 y.2.1 high from_)
def z1ks (N:Nat)(x:z1e SQ6)(K:ExP->List A->Option (Int×(Int×Unit))):Option (Int×(Int×Unit)) :=
 z4m N x.1 x.2.1 x.2.2.1 x.2.2.2.1 (fun a0 a2=>(K .ret (mkS SQ47 30 (a0,x.2.1,a2,())))) (fun a0=>(K (.pan 34) (mkS [(0,.v TT0)] 0 (a0,())))) (fun a0 a2 a3=>(K .normal (mkS SQ6 29 (a0,x.2.1,a2,a3,()))))
def z1ie (N:Nat):HdP (Int×(Int×Unit)):=fun st K=>(unS SQ6 29 (restr [0,2,3,4] 0 st)).bind fun x=>z1ks N x K
def t1_67 (N:Nat):zbd (Int×(Int×Unit)):=[]
theorem z1fe {N:Nat}{c:Ctx}(hb:Base Tryd.prog (z1ok N) c)(hP:PnOk Tryd.prog glob (z2i N)):z22 Tryd.prog c (zd znz [0,1,1,1,1]) (z1ie N) :=
 z26 (s:=SQ6) (m:=29) (g:=z1ks N) [0,2,3,4] (z1n hb hP N (t1_67 N) L_67 znz TabOkP.nil [0,1,1,1,1] _ rfl) (fun x K=>by kernel_rfl)
def z3f (N:Nat)(p:DT3)(low:Int)(high:Int)(from_:Int)(k0:(Int×(Int×Unit))->Option (Int×(Int×Unit)))(k1:Option (Int×(Int×Unit))):Option (Int×(Int×Unit)) :=
 cond (decide (high<(if ((1:Int) > low) then (1:Int) else low)))
 (k0 ((2:Int),(from_,())))
 (k1)
def z1k4 (N:Nat)(x:z1e SQ6)(K:ExP->List A->Option (Int×(Int×Unit))):Option (Int×(Int×Unit)) :=
 z3f N x.1 x.2.1 x.2.2.1 x.2.2.2.1 (fun a0=>(K (.pan 34) (mkS [(0,.v TT0)] 0 (a0,())))) (K .normal (mkS SQ47 30 (x.1,x.2.1,x.2.2.1,())))
def z1hq (N:Nat):HdP (Int×(Int×Unit)):=fun st K=>(unS SQ6 29 (restr [3,2,0,4] 0 st)).bind fun x=>z1k4 N x K
def t2_67 (N:Nat):zbd (Int×(Int×Unit)):=[]
theorem z1eq {N:Nat}{c:Ctx}(hb:Base Tryd.prog (z1ok N) c)(hP:PnOk Tryd.prog glob (z2i N)):z22 Tryd.prog c (zd znz [0,1,1,1,1,1]) (z1hq N) :=
 z26 (s:=SQ6) (m:=29) (g:=z1k4 N) [3,2,0,4] (z1n hb hP N (t2_67 N) L_67 znz TabOkP.nil [0,1,1,1,1,1] _ rfl) (fun x K=>by kernel_rfl)
def z36 (N:Nat)(p:DT3):Option (Int×(Int×Unit)) :=
 orP ((z37 N p)) (fun z=>some z)
 ((z3b N p).bind fun y =>
 z4m N y.2.1 y.1 y.1 p.2.1
 (fun p1 high=>none)
 (fun p2=>some p2)
 (fun p3 high1 from_=>z3f N p3 y.1 high1 from_
 (fun p4=>some p4)
 (orP ((z16 N p3 (125:Int))) (fun z1=>some z1)
 ((zr N p3 (125:Int)).bind fun y1 =>
 none))))
def t_67 (N:Nat):zbd (Int×(Int×Unit)):=[([0,1,1,1,1],z1ie N),([0,1,1,1,1,1],z1hq N)]
theorem z19k (N:Nat)(x:z1e SQ0):zgh (z1ok N) (z2i N) N (t_67 N) L_67 Tryd.f51 34 TT0 (mkS SQ0 0 x) (fun z=>some z)=z36 N x.1:=by kernel_rfl
def z76 (N:Nat):List A->PnRes:=zgg SQ0 (fun x=>z36 N x.1) (fun z=>⟨TT0,z⟩)
theorem zcy (N:Nat):ContractP Tryd.prog glob 51 34 (z76 N) :=
 ContractP.of (E:=z1ok N) (Pn:=z2i N) (H:=t_67 N) (L:=L_67) (N:=N) (body:=znz) (t:=TT0) (z1n1 N) (z4c N) Tryd.func51 (by kernel_rfl) (by decide) (fun _ hb=>(TabOkP.cons (z1fe hb (z4c N)) (TabOkP.cons (z1eq hb (z4c N)) TabOkP.nil))) (fun x y h=>by rw[z19k];exact h)
abbrev z7:Type:=DT3->Option (Int×(Int×Unit))
def zvq:Code:=(Tryd.f56.body).getD .skip
def L_68:List (List Nat×List Nat):=[([0],[0,2]),([0,0,1],[8,0,2]),([1,0,1],[0,2]),([0,1,0,1],[0,2]),([0,1,1],[0,2]),([0,1,1,1],[0,2]),([0,1,1,1,1],[0,3,2]),([0,1,1,1,1,1],[0,3,2]),(z107,[3,2,0]),(z17w,[2,0]),(z17v,[2,0])]
def E_68 (N:Nat)(self:z7):Env:=z24 tys glob [(21,zb6 N),(61,z1j N)] [] [] [0] false [] []
theorem z1n0 (N:Nat)(self:z7):EnvOk Tryd.prog (E_68 N self):=zg mixed z12 (FnsOk.cons (z2r N) (FnsOk.cons (z1y N) (FnsOk.nil))) (ItsOk.nil)
def z3u (N:Nat)(self:z7):PnT:=pnT [(61,34,z2g N),(22,34,zm N),(21,34,zgg SQ0 (fun x=>self x.1) (fun z=>⟨TT0,z⟩))]
theorem z7q (N:Nat)(self:z7)(hself:ContractP Tryd.prog glob 21 34 (zgg SQ0 (fun x=>self x.1) (fun z=>⟨TT0,z⟩))):PnOk Tryd.prog glob (z3u N self):=PnOk.cons (z3t N) (PnOk.cons (zu N) (PnOk.cons (hself) (PnOk.nil)))
def z4u (N:Nat)(self:z7)(p:DT3)(x2:DT2)(k0:(Int×(Int×Unit))->Option (Int×(Int×Unit)))(k1:Option (Int×(Int×Unit))):Option (Int×(Int×Unit)) :=
 cond (p.2.2.1 == (16:Int))
 (k0 ((3:Int),(p.2.1,())))
 (k1)
def z1kr (N:Nat)(self:z7)(x:z1e z17p)(K:ExP->List A->Option (Int×(Int×Unit))):Option (Int×(Int×Unit)) :=
 z4u N self x.1 x.2.1 (fun a0=>(K (.pan 34) (mkS [(0,.v TT0)] 0 (a0,())))) (K .normal (mkS z17p 33 (x.1,x.2.1,())))
def z1id (N:Nat)(self:z7):HdP (Int×(Int×Unit)):=fun st K=>(unS z17p 33 (restr [0,2] 0 st)).bind fun x=>z1kr N self x K
def t1_68 (N:Nat)(self:z7):zbd (Int×(Int×Unit)):=[]
theorem z1fd {N:Nat}{self:z7}{c:Ctx}(hb:Base Tryd.prog (E_68 N self) c)(hP:PnOk Tryd.prog glob (z3u N self)):z22 Tryd.prog c (zd zvq [0,1]) (z1id N self) :=
 z26 (s:=z17p) (m:=33) (g:=z1kr N self) [0,2] (z1n hb hP N (t1_68 N self) L_68 zvq TabOkP.nil [0,1] _ rfl) (fun x K=>by kernel_rfl)
def z3h (N:Nat)(self:z7)(p:DT3):Option (Int×(Int×Unit)) :=
 z4u N self p ((0:Int),(([(0:Int),(0:Int),(0:Int),(0:Int)]:List Int),(([]:List Tree),((0:Int),((0:Int),())))))
 (fun p1=>some p1)
 (orP ((z16 N (p.1,(p.2.1,((IntKind.wrap IntKind.i64 (p.2.2.1+(1:Int))),p.2.2.2))) (40:Int))) (fun z=>some z)
 ((zr N (p.1,(p.2.1,((IntKind.wrap IntKind.i64 (p.2.2.1+(1:Int))),p.2.2.2))) (40:Int)).bind fun y =>
 orP ((self y.2.1)) (fun z1=>some z1)
 ((ze N y.2.1).bind fun y1 =>
 orP ((z16 N y1.2.1 (41:Int))) (fun z2=>some z2)
 ((zr N y1.2.1 (41:Int)).bind fun y2 =>
 none))))
def t_68 (N:Nat)(self:z7):zbd (Int×(Int×Unit)):=[([0,1],z1id N self)]
theorem z19j (N:Nat)(self:z7)(x:z1e SQ0):zgh (E_68 N self) (z3u N self) N (t_68 N self) L_68 Tryd.f56 34 TT0 (mkS SQ0 0 x) (fun z=>some z)=z3h N self x.1:=by kernel_rfl
def z7p (N:Nat)(self:z7):List A->PnRes:=zgg SQ0 (fun x=>z3h N self x.1) (fun z=>⟨TT0,z⟩)
theorem zdh (N:Nat)(self:z7)(hself:ContractP Tryd.prog glob 21 34 (zgg SQ0 (fun x=>self x.1) (fun z=>⟨TT0,z⟩))):ContractP Tryd.prog glob 56 34 (z7p N self) :=
 ContractP.of (E:=E_68 N self) (Pn:=z3u N self) (H:=t_68 N self) (L:=L_68) (N:=N) (body:=zvq) (t:=TT0) (z1n0 N self) (z7q N self hself) Tryd.func56 (by kernel_rfl) (by decide) (fun _ hb=>(TabOkP.cons (z1fd hb (z7q N self hself)) TabOkP.nil)) (fun x y h=>by rw[z19j];exact h)
def zvp:Code:=(Tryd.f50.body).getD .skip
def L_69:List (List Nat×List Nat):=[([0],[0,2]),([0,1],[3,0,2]),([0,1,1],[15,0,2,3]),([0,0,1,1,1],[36,0,2,15,3]),([1,0,1,1,1],[2,0]),([0,1,1,0,1,1,1],[40,0,2,15,3]),([1,1,1,0,1,1,1],[2,0]),([0,1,1,1,1,0,1,1,1],[51,0,2,15,3]),([1,1,1,1,1,0,1,1,1],[2,0]),([0,1,1,1,1,1,1,0,1,1,1],[56,0,2,3]),([1,1,1,1,1,1,1,0,1,1,1],[2,0]),([0,0,1,1,1,1,1,1,1,1,0,1,1,1],[18,0,3,2]),([1,0,1,1,1,1,1,1,1,1,0,1,1,1],[0,3,2]),([0,1,0,1,1,1,1,1,1,1,1,0,1,1,1],[0,3,2]),([0,1,1,1,1,1,1,1,1,1,0,1,1,1],[3,2,0]),([0,1,1,1,1,1,1,1,1,1,1,0,1,1,1],[2,0]),([1,1,1,1,1,1,1,1,1,1,1,0,1,1,1],[2,0]),([0,0,1,1,1,1,1,1,1,0,1,1,1],[4,2,0]),([0,1,0,1,1,1,1,1,1,1,0,1,1,1],[2,0]),([1,1,0,1,1,1,1,1,1,1,0,1,1,1],[2,0]),([0,0,1,1,1,1,1,0,1,1,1],[2,0]),([1,0,1,1,1,1,1,0,1,1,1],[2,0]),([0,0,1,1,1,0,1,1,1],[2,0]),([0,1,0,1,1,1,0,1,1,1],[2,0]),([1,1,0,1,1,1,0,1,1,1],[2,0]),(z1ce,[2,0]),(z1cd,[2,0]),([1,1,1],[2,0])]
def E_69 (N:Nat)(self:z7):Env:=z24 tys glob [(31,z2s N),(37,z2n N),(56,z6l N (ze N)),(57,zew N),(58,z4v N),(59,z33 N)] [] [] [0] false [] []
theorem z1mz (N:Nat)(self:z7):EnvOk Tryd.prog (E_69 N self):=zg mixed z12 (FnsOk.cons (z3x N) (FnsOk.cons (z3o N) (FnsOk.cons (zag N (ze N) (z2r N)) (FnsOk.cons (zl7 N) (FnsOk.cons (z9b N) (FnsOk.cons (z4g N) (FnsOk.nil))))))) (ItsOk.nil)
def z42 (N:Nat)(self:z7):PnT:=pnT [(56,34,z7p N self),(58,34,z69 N),(59,34,z4a N),(22,34,zm N),(21,34,zgg SQ0 (fun x=>self x.1) (fun z=>⟨TT0,z⟩))]
theorem z8h (N:Nat)(self:z7)(hself:ContractP Tryd.prog glob 21 34 (zgg SQ0 (fun x=>self x.1) (fun z=>⟨TT0,z⟩))):PnOk Tryd.prog glob (z42 N self):=PnOk.cons (zdh N self hself) (PnOk.cons (zbi N) (PnOk.cons (z7r N) (PnOk.cons (zu N) (PnOk.cons (hself) (PnOk.nil)))))
def z58 (N:Nat)(self:z7)(p:DT3)(x2:DT2)(b:Int)(k0:(Int×(Int×Unit))->Option (Int×(Int×Unit)))(k1:Option (Int×(Int×Unit))):Option (Int×(Int×Unit)) :=
 cond (decide ((0:Int)<=(Go.Lib.indexByte ([(92:UInt8),(46:UInt8),(91:UInt8),(93:UInt8),(40:UInt8),(41:UInt8),(123:UInt8),(125:UInt8),(124:UInt8),(42:UInt8),(43:UInt8),(63:UInt8)]:List UInt8) (Nat.toUInt8 (Int.toNat b)))))
 (k0 ((2:Int),(p.2.1,())))
 (k1)
def z1kq (N:Nat)(self:z7)(x:z1e z17r)(K:ExP->List A->Option (Int×(Int×Unit))):Option (Int×(Int×Unit)) :=
 z58 N self x.1 x.2.1 x.2.2.1 (fun a0=>(K (.pan 34) (mkS [(0,.v TT0)] 0 (a0,())))) (K .normal (mkS z17r 61 (x.1,x.2.1,x.2.2.1,())))
def z1ic (N:Nat)(self:z7):HdP (Int×(Int×Unit)):=fun st K=>(unS z17r 61 (restr [3,0,2] 0 st)).bind fun x=>z1kq N self x K
def t1_69 (N:Nat)(self:z7):zbd (Int×(Int×Unit)):=[]
theorem z1fc {N:Nat}{self:z7}{c:Ctx}(hb:Base Tryd.prog (E_69 N self) c)(hP:PnOk Tryd.prog glob (z42 N self)):z22 Tryd.prog c (zd zvp z1d5) (z1ic N self) :=
 z26 (s:=z17r) (m:=61) (g:=z1kq N self) [3,0,2] (z1n hb hP N (t1_69 N self) L_69 zvp TabOkP.nil z1d5 _ rfl) (fun x K=>by kernel_rfl)
def z3p (N:Nat)(self:z7)(p:DT3):Option (Int×(Int×Unit)) :=
 cond (inR p.2.1 (List.length p.1))
 (cond ((((UInt8.toNat (List.getD p.1 (Int.toNat p.2.1) (0:UInt8))):Nat):Int) == (40:Int))
 (orP ((z3h N self p)) (fun z=>some z)
 ((z3v N (ze N) p).bind fun y =>
 none))
 (cond ((((UInt8.toNat (List.getD p.1 (Int.toNat p.2.1) (0:UInt8))):Nat):Int) == (46:Int))
 ((z1w N (0:Int) (255:Int)).bind fun y1 =>
 none)
 (cond ((((UInt8.toNat (List.getD p.1 (Int.toNat p.2.1) (0:UInt8))):Nat):Int) == (91:Int))
 (orP ((z2h N p)) (fun z1=>some z1)
 ((z2y N p).bind fun y2 =>
 none))
 (cond ((((UInt8.toNat (List.getD p.1 (Int.toNat p.2.1) (0:UInt8))):Nat):Int) == (92:Int))
 (orP ((z28 N p)) (fun z2=>some z2)
 ((z25 N p).bind fun y3 =>
 none))
 (z58 N self p ((0:Int),(([(0:Int),(0:Int),(0:Int),(0:Int)]:List Int),(([]:List Tree),((0:Int),((0:Int),()))))) (((UInt8.toNat (List.getD p.1 (Int.toNat p.2.1) (0:UInt8))):Nat):Int)
 (fun p1=>some p1)
 ((z1w N (((UInt8.toNat (List.getD p.1 (Int.toNat p.2.1) (0:UInt8))):Nat):Int) (((UInt8.toNat (List.getD p.1 (Int.toNat p.2.1) (0:UInt8))):Nat):Int)).bind fun y4 =>
 none))))))
 (none)
def t_69 (N:Nat)(self:z7):zbd (Int×(Int×Unit)):=[(z1d5,z1ic N self)]
theorem z19i (N:Nat)(self:z7)(x:z1e SQ0):zgh (E_69 N self) (z42 N self) N (t_69 N self) L_69 Tryd.f50 34 TT0 (mkS SQ0 0 x) (fun z=>some z)=z3p N self x.1:=by kernel_rfl
def z8g (N:Nat)(self:z7):List A->PnRes:=zgg SQ0 (fun x=>z3p N self x.1) (fun z=>⟨TT0,z⟩)
theorem ze1 (N:Nat)(self:z7)(hself:ContractP Tryd.prog glob 21 34 (zgg SQ0 (fun x=>self x.1) (fun z=>⟨TT0,z⟩))):ContractP Tryd.prog glob 50 34 (z8g N self) :=
 ContractP.of (E:=E_69 N self) (Pn:=z42 N self) (H:=t_69 N self) (L:=L_69) (N:=N) (body:=zvp) (t:=TT0) (z1mz N self) (z8h N self hself) Tryd.func50 (by kernel_rfl) (by decide) (fun _ hb=>(TabOkP.cons (z1fc hb (z8h N self hself)) TabOkP.nil)) (fun x y h=>by rw[z19i];exact h)
def zvo:Code:=(Tryd.f41.body).getD .skip
def L_70:List (List Nat×List Nat):=[([0],[0,2]),([0,1],[0,3,2]),([0,0,1,1],[16,3,2,0]),([1,0,1,1],[3,0,2]),([0,0,1,0,1,1],[2,0]),([1,0,1,0,1,1],[2,0]),([0,1,1,1],[0,4,2,3]),([0,0,1,1,1,1],[29,4,0,2,3]),([0,0,0,0,0,0,0,0,0,0,0,0,0,0,1,0,1,1,1,1],[30,4,0,2,29,3]),([1,0,0,0,0,0,0,0,0,0,0,0,0,0,1,0,1,1,1,1],[29,0,4,2,3]),([0,1,0,0,0,0,0,0,0,0,0,0,0,0,0,1,0,1,1,1,1],[4,0,2]),([0,0,1,0,0,0,0,0,0,0,0,0,0,0,0,1,0,1,1,1,1],[32,0,4,2,29,3]),([1,0,1,0,0,0,0,0,0,0,0,0,0,0,0,1,0,1,1,1,1],[29,0,4,2,3]),([0,1,0,1,0,0,0,0,0,0,0,0,0,0,0,0,1,0,1,1,1,1],[0,4,2]),([0,0,1,1,0,0,0,0,0,0,0,0,0,0,0,0,1,0,1,1,1,1],[34,0,4,2,29,3]),([1,0,1,1,0,0,0,0,0,0,0,0,0,0,0,0,1,0,1,1,1,1],[29,0,4,2,3]),([0,1,0,1,1,0,0,0,0,0,0,0,0,0,0,0,0,1,0,1,1,1,1],[0,4,2]),([0,1,1,1,0,0,0,0,0,0,0,0,0,0,0,0,1,0,1,1,1,1],[36,0,4,2,3]),([1,1,1,1,0,0,0,0,0,0,0,0,0,0,0,0,1,0,1,1,1,1],[3,2,0]),([0,1,1,1,1,0,0,0,0,0,0,0,0,0,0,0,0,1,0,1,1,1,1],[0,4,2]),([1,0,0,0,0,0,0,0,0,0,0,0,1,0,1,1,1,1],[3,2,0]),([0,0,0,0,0,0,0,0,0,0,1,0,1,1,1,1],[4,0,2]),([1,0,0,0,0,0,0,0,0,0,1,0,1,1,1,1],[0,4,2]),(z17x,[0,4,2]),([0,1,0,0,0,0,0,0,0,1,0,1,1,1,1],[4,2,0]),([1,1,0,0,0,0,0,0,0,1,0,1,1,1,1],[4,2,0]),([0,0,0,0,0,0,1,0,1,1,1,1],[0,4,2]),([0,0,1,0,0,0,0,0,1,0,1,1,1,1],[4,2,0]),([1,0,1,0,0,0,0,0,1,0,1,1,1,1],[4,2,0]),([1,1,0,0,0,0,0,1,0,1,1,1,1],[4,2,0]),([0,0,0,0,1,0,1,1,1,1],[0,4,2]),([0,0,1,0,0,0,1,0,1,1,1,1],[0,4,2]),([1,0,1,0,0,0,1,0,1,1,1,1],[4,2,0]),([1,1,0,0,0,1,0,1,1,1,1],[4,2,0]),(PQ86,[3,2,0]),([0,0,1,0,1,0,1,1,1,1],[2,0]),([1,0,1,0,1,0,1,1,1,1],[2,0]),([1,1,0,1,0,1,1,1,1],[4,2,0]),([1,0,1,1,1,1],[4,2,0]),([0,1,1,1,1,1],[2,0]),([1,1,1,1,1,1],[2,0])]
def E_70 (N:Nat)(self:z7):Env:=z24 tys glob [(50,z77 N (ze N)),(51,z61 N)] [] [] [0] false [] []
theorem z1my (N:Nat)(self:z7):EnvOk Tryd.prog (E_70 N self):=zg mixed z12 (FnsOk.cons (zb5 N (ze N) (z2r N)) (FnsOk.cons (z9v N) (FnsOk.nil))) (ItsOk.nil)
def z3r (N:Nat)(self:z7):PnT:=pnT [(50,34,z8g N self),(51,34,z76 N),(21,34,zgg SQ0 (fun x=>self x.1) (fun z=>⟨TT0,z⟩))]
theorem z7o (N:Nat)(self:z7)(hself:ContractP Tryd.prog glob 21 34 (zgg SQ0 (fun x=>self x.1) (fun z=>⟨TT0,z⟩))):PnOk Tryd.prog glob (z3r N self):=PnOk.cons (ze1 N self hself) (PnOk.cons (zcy N) (PnOk.cons (hself) (PnOk.nil)))
def z4s (N:Nat)(self:z7)(p:DT3)(x2:DT2)(kid:DT2)(rep:DT2)(x29:Int)(k0:DT2->Option (Int×(Int×Unit)))(k1:Option (Int×(Int×Unit)))(k2:Option (Int×(Int×Unit)))(k3:Option (Int×(Int×Unit))):Option (Int×(Int×Unit)) :=
 cond (x29 == (43:Int))
 (k0 (rep.1,(rep.2.1,(rep.2.2.1,((1:Int),rep.2.2.2.2)))))
 (cond (x29 == (42:Int))
 (k0 rep)
 (cond (x29 == (63:Int))
 (k1)
 (cond (x29 == (123:Int))
 (k2)
 (k3))))
def z1kp (N:Nat)(self:z7)(x:z1e z1cx)(K:ExP->List A->Option (Int×(Int×Unit))):Option (Int×(Int×Unit)) :=
 z4s N self x.1 x.2.1 x.2.2.1 x.2.2.2.1 x.2.2.2.2.1 (fun a2=>(K .normal (mkS z1cv 65 (x.1,x.2.1,a2,())))) (K (.exit 3) (mkS z1cv 65 (x.1,x.2.1,x.2.2.2.1,()))) (K (.exit 4) (mkS z1cv 65 (x.1,x.2.1,x.2.2.2.1,()))) (K (.exit 5) (mkS [(0,.box (.pair .str TT0)),(1,.box TT1),(0,.box TT1)] 66 (x.1,x.2.1,x.2.2.1,())))
def z1ib (N:Nat)(self:z7):HdP (Int×(Int×Unit)):=fun st K=>(unS z1cx 40 (restr [29,4,0,2,3] 0 st)).bind fun x=>z1kp N self x K
def t1_70 (N:Nat)(self:z7):zbd (Int×(Int×Unit)):=[]
theorem z1fb {N:Nat}{self:z7}{c:Ctx}(hb:Base Tryd.prog (E_70 N self) c)(hP:PnOk Tryd.prog glob (z3r N self)):z22 Tryd.prog c (zd zvo z17x) (z1ib N self) :=
 z26 (s:=z1cx) (m:=40) (g:=z1kp N self) [29,4,0,2,3] (z1n hb hP N (t1_70 N self) L_70 zvo TabOkP.nil z17x _ rfl) (fun x K=>by kernel_rfl)
def z2d (N:Nat)(self:z7)(p:DT3):Option (Int×(Int×Unit)) :=
 orP ((z3p N self p)) (fun z=>some z)
 ((z45 N (ze N) p).bind fun y =>
 cond (y.2.1.2.1 == (((List.length y.2.1.1):Nat):Int))
 (none)
 (cond (inR y.2.1.2.1 (List.length y.2.1.1))
 (z4s N self y.2.1 ((0:Int),(([(0:Int),(0:Int),(0:Int),(0:Int)]:List Int),(([]:List Tree),((0:Int),((0:Int),()))))) y.1 ((4:Int),(([(0:Int),(0:Int),(0:Int),(0:Int)]:List Int),((List.map foN ([y.1]:List DT8)),((0:Int),((-(1:Int)),()))))) (((UInt8.toNat (List.getD y.2.1.1 (Int.toNat y.2.1.2.1) (0:UInt8))):Nat):Int)
 (fun rep=>none)
 (none)
 (orP ((z36 N (y.2.1.1,((IntKind.wrap IntKind.i64 (y.2.1.2.1+(1:Int))),y.2.1.2.2)))) (fun z1=>some z1)
 ((z3i N (y.2.1.1,((IntKind.wrap IntKind.i64 (y.2.1.2.1+(1:Int))),y.2.1.2.2))).bind fun y1 =>
 none))
 (none))
 (none)))
def t_70 (N:Nat)(self:z7):zbd (Int×(Int×Unit)):=[(z17x,z1ib N self)]
theorem z19h (N:Nat)(self:z7)(x:z1e SQ0):zgh (E_70 N self) (z3r N self) N (t_70 N self) L_70 Tryd.f41 34 TT0 (mkS SQ0 0 x) (fun z=>some z)=z2d N self x.1:=by kernel_rfl
def z7n (N:Nat)(self:z7):List A->PnRes:=zgg SQ0 (fun x=>z2d N self x.1) (fun z=>⟨TT0,z⟩)
theorem zdg (N:Nat)(self:z7)(hself:ContractP Tryd.prog glob 21 34 (zgg SQ0 (fun x=>self x.1) (fun z=>⟨TT0,z⟩))):ContractP Tryd.prog glob 41 34 (z7n N self) :=
 ContractP.of (E:=E_70 N self) (Pn:=z3r N self) (H:=t_70 N self) (L:=L_70) (N:=N) (body:=zvo) (t:=TT0) (z1my N self) (z7o N self hself) Tryd.func41 (by kernel_rfl) (by decide) (fun _ hb=>(TabOkP.cons (z1fb hb (z7o N self hself)) TabOkP.nil)) (fun x y h=>by rw[z19h];exact h)
def zit:Code:=(Tryd.f28.body).getD .skip
def z1mo:List (List Nat×List Nat):=[([0],[0,2]),([0,1],[0,3,2]),([0,0,1,1],[0,3,2]),([0,0,0,0,0,1,1],[37,3,0,2]),([1,0,0,0,0,1,1],[3,0,2]),([1,1,0,0,0,0,1,1],[3,2,0]),([0,1,0,0,0,1,1],[0,3,2]),([1,0,0,0,1,1],[0,3,2]),([0,1,1],[3,2,0]),([0,1,1,1],[2,0]),([1,1,1,1],[2,0])]
def z1d8 (N:Nat)(self:z7):Env:=z24 tys glob [(30,z8i N),(41,z6k N (ze N))] [(3,TT1)] [] [0] false [] []
theorem z1mx (N:Nat)(self:z7):EnvOk Tryd.prog (z1d8 N self):=zg mixed z12 (FnsOk.cons (zbj N) (FnsOk.cons (zaf N (ze N) (z2r N)) (FnsOk.nil))) (ItsOk.nil)
def z2e (N:Nat)(self:z7):PnT:=pnT [(41,34,z7n N self),(21,34,zgg SQ0 (fun x=>self x.1) (fun z=>⟨TT0,z⟩))]
theorem z99 (N:Nat)(self:z7)(hself:ContractP Tryd.prog glob 21 34 (zgg SQ0 (fun x=>self x.1) (fun z=>⟨TT0,z⟩))):PnOk Tryd.prog glob (z2e N self):=PnOk.cons (zdg N self hself) (PnOk.cons (hself) (PnOk.nil))
def z5z (N:Nat)(self:z7)(p:DT3)(x2:DT2)(parts:(List DT2))(k0:Option (Int×(Int×Unit)))(k1:Option (Int×(Int×Unit))):Option (Int×(Int×Unit)) :=
 cond (decide (p.2.1<(((List.length p.1):Nat):Int)))
 (cond (inR p.2.1 (List.length p.1))
 (cond ((((UInt8.toNat (List.getD p.1 (Int.toNat p.2.1) (0:UInt8))):Nat):Int) != (124:Int))
 (cond (inR p.2.1 (List.length p.1))
 (cond ((((UInt8.toNat (List.getD p.1 (Int.toNat p.2.1) (0:UInt8))):Nat):Int) != (41:Int))
 (k0)
 (k1))
 (none))
 (k1))
 (none))
 (k1)
def z1js (N:Nat)(self:z7)(x:z1e SQ3)(K:ExP->List A->Option (Int×(Int×Unit))):Option (Int×(Int×Unit)) :=
 z5z N self x.1 x.2.1 x.2.2.1 (K .normal (mkS SQ3 41 (x.1,x.2.1,x.2.2.1,()))) (K (.exit 0) (mkS SQ3 41 (x.1,x.2.1,x.2.2.1,())))
def z1he (N:Nat)(self:z7):HdP (Int×(Int×Unit)):=fun st K=>(unS SQ3 41 (restr [0,3,2] 0 st)).bind fun x=>z1js N self x K
def t3_71 (N:Nat)(self:z7):zbd (Int×(Int×Unit)):=[]
theorem z1ee {N:Nat}{self:z7}{c:Ctx}(hb:Base Tryd.prog (z1d8 N self) c)(hP:PnOk Tryd.prog glob (z2e N self)):z22 Tryd.prog c (zd zit [0,0,0,0,1,1]) (z1he N self) :=
 z26 (s:=SQ3) (m:=41) (g:=z1js N self) [0,3,2] (z1n hb hP N (t3_71 N self) z1mo zit TabOkP.nil [0,0,0,0,1,1] _ rfl) (fun x K=>by kernel_rfl)
def z34 (N:Nat)(self:z7)(x2:DT2)(p:DT3)(parts:(List DT2))(rec:DT3->(List DT2)->Option (Int×(Int×Unit)))(k0:(Int×(Int×Unit))->Option (Int×(Int×Unit)))(k1:DT3->(List DT2)->Option (Int×(Int×Unit))):Option (Int×(Int×Unit)) :=
 z5z N self p x2 parts
 (orP ((z2d N self p)) (fun z=>k0 z)
 ((z2b N (ze N) p).bind fun y =>
 cond (decide ((((List.length parts)+1)*80)<=70368744177664))
 (rec y.2.1 (parts++([y.1]:List DT8)))
 (none)))
 (k1 p parts)
def z9k (N:Nat)(self:z7)(p:DT3)(x2:DT2)(parts:(List DT2))(k0:(Int×(Int×Unit))->Option (Int×(Int×Unit)))(k1:DT3->(List DT2)->Option (Int×(Int×Unit))):Option (Int×(Int×Unit)) :=
 iter (fun (v:(DT3×(List DT2))) r=>z34 N self x2 v.1 v.2 (fun p parts=>(r (p,parts))) k0 k1) N (p,parts)
def z1k3 (N:Nat)(self:z7)(i:DT2)(v:(DT3×(List DT2)))(r:(DT3×(List DT2))->Option (Int×(Int×Unit)))(K:ExP->List A->Option (Int×(Int×Unit))):Option (Int×(Int×Unit)) :=
 z34 N self i v.1 v.2 (fun p parts=>(r (p,parts))) (fun a0=>(K (.pan 34) (mkS [(0,.v TT0)] 0 (a0,())))) (fun a0 a2=>(K (.exit 0) (mkS SQ3 41 (a0,i,a2,()))))
def z1hp (N:Nat)(self:z7):HdP (Int×(Int×Unit)):=fun st K=>(unS SQ3 41 (restr [0,3,2] 0 st)).bind fun x=>iter (fun v r=>z1k3 N self ((fun x=>x.2.1) x) v r K) N ((fun x=>(x.1,x.2.2.1)) x)
def t2_71 (N:Nat)(self:z7):zbd (Int×(Int×Unit)):=[([0,0,0,0,1,1],z1he N self)]
theorem z1ep {N:Nat}{self:z7}{c:Ctx}(hb:Base Tryd.prog (z1d8 N self) c)(hP:PnOk Tryd.prog glob (z2e N self)):z22 Tryd.prog c (zd zit [0,0,1,1]) (z1hp N self) :=
 zm3 (s:=SQ3) (m:=41) (z1k3 N self) [0,3,2] N (fun x=>x.2.1) (fun x=>(x.1,x.2.2.1)) (fun i v=>(v.1,i,v.2,())) (fun _=>rfl) (z1n hb hP N (t2_71 N self) z1mo zit (TabOkP.cons (z1ee hb hP) TabOkP.nil) [0,0,0,1,1] _ rfl) (fun i v r K=>by kernel_rfl)
def z60 (N:Nat)(self:z7)(p:DT3)(x2:DT2)(parts:(List DT2))(k0:(Int×(Int×Unit))->Option (Int×(Int×Unit)))(k1:DT3->(List DT2)->Option (Int×(Int×Unit))):Option (Int×(Int×Unit)) :=
 z9k N self p x2 parts
 (fun p1=>k0 p1)
 (fun p2 zja=>k1 p2 zja)
def z1ko (N:Nat)(self:z7)(x:z1e SQ3)(K:ExP->List A->Option (Int×(Int×Unit))):Option (Int×(Int×Unit)) :=
 z60 N self x.1 x.2.1 x.2.2.1 (fun a0=>(K (.pan 34) (mkS [(0,.v TT0)] 0 (a0,())))) (fun a0 a2=>(K .normal (mkS SQ3 41 (a0,x.2.1,a2,()))))
def z1ia (N:Nat)(self:z7):HdP (Int×(Int×Unit)):=fun st K=>(unS SQ3 41 (restr [0,3,2] 0 st)).bind fun x=>z1ko N self x K
def t1_71 (N:Nat)(self:z7):zbd (Int×(Int×Unit)):=[([0,0,1,1],z1hp N self)]
theorem z1fa {N:Nat}{self:z7}{c:Ctx}(hb:Base Tryd.prog (z1d8 N self) c)(hP:PnOk Tryd.prog glob (z2e N self)):z22 Tryd.prog c (zd zit [0,1,1]) (z1ia N self) :=
 z26 (s:=SQ3) (m:=41) (g:=z1ko N self) [0,3,2] (z1n hb hP N (t1_71 N self) z1mo zit (TabOkP.cons (z1ep hb hP) TabOkP.nil) [0,1,1] _ rfl) (fun x K=>by kernel_rfl)
def z39 (N:Nat)(self:z7)(p:DT3):Option (Int×(Int×Unit)) :=
 z60 N self p ((0:Int),(([(0:Int),(0:Int),(0:Int),(0:Int)]:List Int),(([]:List Tree),((0:Int),((0:Int),()))))) ([]:List DT8)
 (fun p1=>some p1)
 (fun p2 parts=>(z7g N (2:Int) (List.map foN parts)).bind fun y =>
 none)
def t_71 (N:Nat)(self:z7):zbd (Int×(Int×Unit)):=[([0,1,1],z1ia N self)]
theorem z19g (N:Nat)(self:z7)(x:z1e SQ0):zgh (z1d8 N self) (z2e N self) N (t_71 N self) z1mo Tryd.f28 34 TT0 (mkS SQ0 0 x) (fun z=>some z)=z39 N self x.1:=by kernel_rfl
def z98 (N:Nat)(self:z7):List A->PnRes:=zgg SQ0 (fun x=>z39 N self x.1) (fun z=>⟨TT0,z⟩)
theorem zev (N:Nat)(self:z7)(hself:ContractP Tryd.prog glob 21 34 (zgg SQ0 (fun x=>self x.1) (fun z=>⟨TT0,z⟩))):ContractP Tryd.prog glob 28 34 (z98 N self) :=
 ContractP.of (E:=z1d8 N self) (Pn:=z2e N self) (H:=t_71 N self) (L:=z1mo) (N:=N) (body:=zit) (t:=TT0) (z1mx N self) (z99 N self hself) Tryd.func28 (by kernel_rfl) (by decide) (fun _ hb=>(TabOkP.cons (z1fa hb (z99 N self hself)) TabOkP.nil)) (fun x y h=>by rw[z19g];exact h)
def zrm:Code:=(Tryd.f21.body).getD .skip
def L_72:List (List Nat×List Nat):=[([0],[0,2]),([0,1],[0,3,2]),([0,0,1,1],[0,3,2]),([0,0,0,0,0,1,1],[8,3,0,2]),([1,0,0,0,0,1,1],[3,0,2]),([1,1,0,0,0,0,1,1],[3,2,0]),([0,1,0,0,0,1,1],[0,3,2]),([1,0,0,0,1,1],[0,3,2]),([0,1,1],[3,2,0]),([0,1,1,1],[2,0]),([1,1,1,1],[2,0])]
def E_72 (N:Nat)(self:DT3->Option (Int×(Int×Unit))):Env:=z24 tys glob [(28,z87 N (ze N)),(29,z1h N),(30,z8i N)] [(3,TT1)] [] [0] false [] []
theorem z1mw (N:Nat)(self:DT3->Option (Int×(Int×Unit))):EnvOk Tryd.prog (E_72 N self):=zg mixed z12 (FnsOk.cons (zce N (ze N) (z2r N)) (FnsOk.cons (z1x N) (FnsOk.cons (zbj N) (FnsOk.nil)))) (ItsOk.nil)
def z4i (N:Nat)(self:DT3->Option (Int×(Int×Unit))):PnT:=pnT [(28,34,z98 N self),(21,34,zgg SQ0 (fun x=>self x.1) (fun z=>⟨TT0,z⟩))]
theorem z9c (N:Nat)(self:DT3->Option (Int×(Int×Unit)))(hself:ContractP Tryd.prog glob 21 34 (zgg SQ0 (fun x=>self x.1) (fun z=>⟨TT0,z⟩))):PnOk Tryd.prog glob (z4i N self):=PnOk.cons (zev N self hself) (PnOk.cons (hself) (PnOk.nil))
def z43 (N:Nat)(self:DT3->Option (Int×(Int×Unit)))(x2:DT2)(p:DT3)(parts:(List DT2))(rec:DT3->(List DT2)->Option (Int×(Int×Unit)))(k0:(Int×(Int×Unit))->Option (Int×(Int×Unit)))(k1:DT3->(List DT2)->Option (Int×(Int×Unit))):Option (Int×(Int×Unit)) :=
 (zq N p (124:Int)).bind fun y =>
 cond y.1
 (orP ((z39 N self y.2.1)) (fun z=>k0 z)
 ((z3d N (ze N) y.2.1).bind fun y1 =>
 cond (decide ((((List.length parts)+1)*80)<=70368744177664))
 (rec y1.2.1 (parts++([y1.1]:List DT8)))
 (none)))
 (k1 y.2.1 parts)
def z9l (N:Nat)(self:DT3->Option (Int×(Int×Unit)))(p:DT3)(x2:DT2)(parts:(List DT2))(k0:(Int×(Int×Unit))->Option (Int×(Int×Unit)))(k1:DT3->(List DT2)->Option (Int×(Int×Unit))):Option (Int×(Int×Unit)) :=
 iter (fun (v:(DT3×(List DT2))) r=>z43 N self x2 v.1 v.2 (fun p parts=>(r (p,parts))) k0 k1) N (p,parts)
def z1kn (N:Nat)(self:DT3->Option (Int×(Int×Unit)))(i:DT2)(v:(DT3×(List DT2)))(r:(DT3×(List DT2))->Option (Int×(Int×Unit)))(K:ExP->List A->Option (Int×(Int×Unit))):Option (Int×(Int×Unit)) :=
 z43 N self i v.1 v.2 (fun p parts=>(r (p,parts))) (fun a0=>(K (.pan 34) (mkS [(0,.v TT0)] 0 (a0,())))) (fun a0 a2=>(K (.exit 0) (mkS SQ3 12 (a0,i,a2,()))))
def z1i9 (N:Nat)(self:DT3->Option (Int×(Int×Unit))):HdP (Int×(Int×Unit)):=fun st K=>(unS SQ3 12 (restr [0,3,2] 0 st)).bind fun x=>iter (fun v r=>z1kn N self ((fun x=>x.2.1) x) v r K) N ((fun x=>(x.1,x.2.2.1)) x)
def t1_72 (N:Nat)(self:DT3->Option (Int×(Int×Unit))):zbd (Int×(Int×Unit)):=[]
theorem z1f9 {N:Nat}{self:DT3->Option (Int×(Int×Unit))}{c:Ctx}(hb:Base Tryd.prog (E_72 N self) c)(hP:PnOk Tryd.prog glob (z4i N self)):z22 Tryd.prog c (zd zrm [0,0,1,1]) (z1i9 N self) :=
 zm3 (s:=SQ3) (m:=12) (z1kn N self) [0,3,2] N (fun x=>x.2.1) (fun x=>(x.1,x.2.2.1)) (fun i v=>(v.1,i,v.2,())) (fun _=>rfl) (z1n hb hP N (t1_72 N self) L_72 zrm TabOkP.nil [0,0,0,1,1] _ rfl) (fun i v r K=>by kernel_rfl)
def z4j (N:Nat)(self:DT3->Option (Int×(Int×Unit)))(p:DT3):Option (Int×(Int×Unit)) :=
 orP ((z39 N self p)) (fun z=>some z)
 ((z3d N (ze N) p).bind fun y =>
 z9l N self y.2.1 ((0:Int),(([(0:Int),(0:Int),(0:Int),(0:Int)]:List Int),(([]:List Tree),((0:Int),((0:Int),()))))) ([y.1]:List DT8)
 (fun p1=>some p1)
 (fun p2 parts=>(z7g N (3:Int) (List.map foN parts)).bind fun y1 =>
 none))
def t_72 (N:Nat)(self:DT3->Option (Int×(Int×Unit))):zbd (Int×(Int×Unit)):=[([0,0,1,1],z1i9 N self)]
theorem z19f (N:Nat)(self:DT3->Option (Int×(Int×Unit)))(x:z1e SQ0):zgh (E_72 N self) (z4i N self) N (t_72 N self) L_72 Tryd.f21 34 TT0 (mkS SQ0 0 x) (fun z=>some z)=z4j N self x.1:=by kernel_rfl
def zo:Nat->DT3->Option (Int×(Int×Unit))
 | 0=>fun _=>none
 | N+1=>z4j (N+1) (zo N)
def ze2 (N:Nat):List A->PnRes:=zgg SQ0 (fun x=>zo N x.1) (fun z=>⟨TT0,z⟩)
theorem z63:∀ N:Nat,ContractP Tryd.prog glob 21 34 (ze2 N)
 | 0=>ContractP.zero Tryd.func21 (body:=zrm) (by kernel_rfl) (by decide) (fun _=>rfl)
 | N+1=>ContractP.of (E:=E_72 (N+1) (zo N)) (Pn:=z4i (N+1) (zo N)) (H:=t_72 (N+1) (zo N)) (L:=L_72) (N:=(N+1)) (body:=zrm) (t:=TT0) (z1mw (N+1) (zo N)) (z9c (N+1) (zo N) (z63 N)) Tryd.func21 (by kernel_rfl) (by decide) (fun _ hb=>(TabOkP.cons (z1f9 hb (z9c (N+1) (zo N) (z63 N))) TabOkP.nil)) (fun x y h=>by rw[z19f];exact h)
end
end Go.Proofs.YthgcpalmjcomlaaDoorLg
set_option linter.all false
set_option maxRecDepth 100000
namespace Go.Proofs.YthgcpalmjcomlaaDoorLg
noncomputable section
open Go Go.Lift
def Cl (w:World)(n:Nat)(cs:List Value):Prop:=∀ i v,cs[i]?=some v->w.cell? ⟨n,i,none⟩=some v/\w.frozen? ⟨n,i,none⟩=false
def PsW (w0:World)(S0 S:Hp)(W:World):Prop:=WF w0 (fun _=>False) W/\Lift.Sub S0 S/\Lift.Sub S (hp W)/\∀ k,S k≠none->S0 k≠none\/w0.heap.size<=k
theorem PsW.drew {w0 W:World}{S0 S:Hp}(h:PsW w0 S0 S W):PsW w0 S0 S W.drew:=by
 obtain⟨h1,h2,h3,h4⟩:=h;exact⟨⟨h1.size,h1.same,h1.tape,h1.os,h1.output⟩,h2,h3,h4⟩
theorem PsW.alloc {w0 W:World}{S0 S:Hp}(h:PsW w0 S0 S W)(cs:Array Value)(E:Nat):PsW w0 S0 S (W.alloc (.cells cs E)):=by
 obtain⟨h1,h2,h3,h4⟩:=h;have hh:(W.alloc (.cells cs E)).heap=W.heap.push (.cells cs E (0,0)):=rfl;have hk:∀ k,k<W.heap.size->(W.alloc (.cells cs E)).heap[k]?=W.heap[k]?:=fun k hk=>by
  rw[hh,Array.getElem?_push,if_neg (by omega)]
 refine⟨⟨by rw[hh,Array.size_push];have:=h1.size;omega,fun k h1' h2'=>by rw[hk k (by have:=h1.size;omega)];exact h1.same k h1' h2',h1.tape,h1.os,h1.output⟩,h2,fun k q ho=>?_,h4⟩;have:=h3 k q ho;simp only[hp] at this ⊢;rw[hk k (Array.getElem?_eq_some_iff.1 this).1];exact this
theorem zgr {W:World}{p i:Nat}{v:Value}{k:Nat}(hk:k≠p):(W.setCell ⟨p,i,none⟩ v).heap[k]?=W.heap[k]?:=by
 unfold World.setCell;split<;>simp[Array.getElem?_modify,Ne.symm hk]
theorem PsW.setCell {w0 W:World}{S0 S:Hp}{p i:Nat}{v:Value}(h:PsW w0 S0 S W)(hp':w0.heap.size<=p)(hS:S p=none):PsW w0 S0 S (W.setCell ⟨p,i,none⟩ v):=by
 obtain⟨h1,h2,h3,h4⟩:=h;have hsz:(W.setCell ⟨p,i,none⟩ v).heap.size=W.heap.size:=by
  unfold World.setCell;split<;>simp
 have ht:(W.setCell ⟨p,i,none⟩ v).tape=W.tape/\(W.setCell ⟨p,i,none⟩ v).os=W.os/\(W.setCell ⟨p,i,none⟩ v).output=W.output:=by
  unfold World.setCell;split
  . exact⟨rfl,rfl,rfl⟩
  . exact⟨rfl,rfl,rfl⟩
 refine⟨⟨by rw[hsz];exact h1.size,fun k h1' h2'=>by rw[zgr (by omega)];exact h1.same k h1' h2',by rw[ht.1];exact h1.tape,by rw[ht.2.1];exact h1.os,by rw[ht.2.2];exact h1.output⟩,h2,fun k q ho=>?_,h4⟩;have hk:k≠p:=fun e=>by rw[e,hS] at ho;cases ho
 have:=h3 k q ho;simp only[hp] at this ⊢;rw[zgr hk];exact this
theorem z5p {w:World}{n:Nat}{cs:List Value}(h:Cl w n cs)(i:Nat)(v:Value):Cl (w.setCell ⟨n,i,none⟩ v) n (cs.set i v):=by
 intro j u hj;rw[List.getElem?_set] at hj;by_cases e:i=j
 . subst e;rw[if_pos rfl] at hj;split at hj
   . rename_i hl;cases hj;obtain⟨h1,h2⟩:=h i _ (List.getElem?_eq_getElem hl);constructor<;>simp[go_sem,h1,h2]
   . cases hj
 . rw[if_neg e] at hj;obtain⟨h1,h2⟩:=h j _ hj;have e':j≠i:=fun h=>e h.symm
   constructor<;>simp[go_sem,h1,h2,e,e']
theorem z1q {w:World}{n m:Nat}{cs:List Value}(h:Cl w n cs)(hne:m≠n)(i:Nat)(v:Value):Cl (w.setCell ⟨m,i,none⟩ v) n cs:=by
 intro j u hj;obtain⟨h1,h2⟩:=h j _ hj;have e':n≠m:=fun h=>hne h.symm
 constructor<;>simp[go_sem,h1,h2,hne,e']
theorem zhi {w:World}{n:Nat}{c:Value}{cs:List Value}(h:Cl w n (c::cs))(o:Obj):Cl (w.alloc o) n (c::cs):=by
 have hlt:n<w.heap.size:=by
  have h0:=(h 0 c rfl).1;rcases Nat.lt_or_ge n w.heap.size with h1|h1
  . exact h1
  . simp[World.cell?,Array.getElem?_eq_none h1] at h0
 intro i v hi;obtain⟨h1,h2⟩:=h i v hi;exact⟨by rw[World.cell?_alloc_past _ _ _ hlt];exact h1,by rw[World.frozen?_alloc_past _ _ _ hlt];exact h2⟩
theorem ztn {w:World}{n:Nat}{c:Value}{cs:List Value}(h:Cl w n (c::cs)):n<w.heap.size:=by
 have h0:=(h 0 c rfl).1;rcases Nat.lt_or_ge n w.heap.size with h1|h1
 . exact h1
 . simp[World.cell?,Array.getElem?_eq_none h1] at h0
theorem ps_idle {w:World}{n0 n1:Nat} :
 CallsD Go.Proofs.Tryd.prog 20 #[.pointer (some ⟨n0,0,none⟩),.pointer (some ⟨n1,0,none⟩)] .returning w fun e u w'=>(∃ v,e=.returned v)/\u=.returning/\w'=w.alloc (Obj.cells #[Value.int IntKind.i64 0,Value.int IntKind.i64 0] 34):=by
 refine callsD_of_wpS Go.Proofs.Tryd.func20 rfl fun c₀ cs hu=>?_
 have ha:∀ W:World,(Instr.typeAssert .nilIface 20 34 true).run Go.Proofs.Tryd.prog W=.ok (.tuple #[.agg #[.int .i64 0,.int .i64 0],.bool false]) W:=fun W=>by kernel_rfl
 apply wpS_seq;apply wpS_region;simp only[Go.Proofs.Tryd.ntmps20,List.size_toArray,List.length_cons,List.length_nil,Nat.reduceAdd,Nat.reduceSub,Array.replicate_succ,
  Array.replicate_zero,List.push_toArray,List.append_toArray,List.nil_append,List.cons_append]
 simp[wpOpsS,go_sem,recoverD,hu,Exit.thenS,ha,List.range_succ];refine wpS_of_wp ?_
 go_wp2
 cases c₀
 simp_all [bodyPostS,results,Go.Proofs.Tryd.results20]
set_option maxHeartbeats 16000000 in
theorem zsj {w:World}{n0 n1:Nat}{e a:Int}{y0 y1:Value}{c0 c1 c2 c3 c4 c5 c6 c7:Value}{R:World->Prop}(h0:Cl (w.alloc (Obj.cells #[Value.int IntKind.i64 e,Value.int IntKind.i64 a] 34)) n0 [c0,c1,c2,c3,c4,c5,c6,c7])(h1:Cl (w.alloc (Obj.cells #[Value.int IntKind.i64 e,Value.int IntKind.i64 a] 34)) n1 [y0,y1])(hne:n0≠n1)(hn2:n0≠w.heap.size)(hn3:n1≠w.heap.size)
 (hR:∀ w',Cl w' n0 [.int .i64 0,.int .u64 0,.int .u64 0,.int .u64 0,.int .u64 0,.slice none 0 0,.int .i64 0,.int .i64 0]->Cl w' n1 [.int .i64 e,.int .i64 a] →
  (∀ (w0:World) (S0 S:Hp),PsW w0 S0 S w->w0.heap.size<=n0->w0.heap.size<=n1->S n0=none->S n1=none->PsW w0 S0 S w')->R w') :
 CallsD Go.Proofs.Tryd.prog 20 #[.pointer (some ⟨n0,0,none⟩),.pointer (some ⟨n1,0,none⟩)] (.panicking [{ v:=.iface 34 (.agg #[.int .i64 e,.int .i64 a]),recovered:=false }]) w fun r u w'=>(∃ v,r=.returned v)/\u=.panicking [{ v:=.iface 34 (.agg #[.int .i64 e,.int .i64 a]),recovered:=true }]/\R w':=by
 refine callsD_of_wpS Go.Proofs.Tryd.func20 rfl fun c₀ cs hu=>?_
 have ha:∀ W:World,(Instr.typeAssert (.iface 34 (.agg #[.int .i64 e,.int .i64 a])) 20 34 true).run Go.Proofs.Tryd.prog W=.ok (.tuple #[.agg #[.int .i64 e,.int .i64 a],.bool true]) W:=fun W=>by kernel_rfl
 have c00:(w.alloc (Obj.cells #[Value.int IntKind.i64 e,Value.int IntKind.i64 a] 34)).cell? ⟨n0,0,none⟩=some (c0):=(h0 0 _ rfl).1;have z00:(w.alloc (Obj.cells #[Value.int IntKind.i64 e,Value.int IntKind.i64 a] 34)).frozen? ⟨n0,0,none⟩=false:=(h0 0 _ rfl).2;have c01:(w.alloc (Obj.cells #[Value.int IntKind.i64 e,Value.int IntKind.i64 a] 34)).cell? ⟨n0,1,none⟩=some (c1):=(h0 1 _ rfl).1;have z01:(w.alloc (Obj.cells #[Value.int IntKind.i64 e,Value.int IntKind.i64 a] 34)).frozen? ⟨n0,1,none⟩=false:=(h0 1 _ rfl).2;have c02:(w.alloc (Obj.cells #[Value.int IntKind.i64 e,Value.int IntKind.i64 a] 34)).cell? ⟨n0,2,none⟩=some (c2):=(h0 2 _ rfl).1;have z02:(w.alloc (Obj.cells #[Value.int IntKind.i64 e,Value.int IntKind.i64 a] 34)).frozen? ⟨n0,2,none⟩=false:=(h0 2 _ rfl).2;have c03:(w.alloc (Obj.cells #[Value.int IntKind.i64 e,Value.int IntKind.i64 a] 34)).cell? ⟨n0,3,none⟩=some (c3):=(h0 3 _ rfl).1;have z03:(w.alloc (Obj.cells #[Value.int IntKind.i64 e,Value.int IntKind.i64 a] 34)).frozen? ⟨n0,3,none⟩=false:=(h0 3 _ rfl).2;have c04:(w.alloc (Obj.cells #[Value.int IntKind.i64 e,Value.int IntKind.i64 a] 34)).cell? ⟨n0,4,none⟩=some (c4):=(h0 4 _ rfl).1;have z04:(w.alloc (Obj.cells #[Value.int IntKind.i64 e,Value.int IntKind.i64 a] 34)).frozen? ⟨n0,4,none⟩=false:=(h0 4 _ rfl).2;have c05:(w.alloc (Obj.cells #[Value.int IntKind.i64 e,Value.int IntKind.i64 a] 34)).cell? ⟨n0,5,none⟩=some (c5):=(h0 5 _ rfl).1;have z05:(w.alloc (Obj.cells #[Value.int IntKind.i64 e,Value.int IntKind.i64 a] 34)).frozen? ⟨n0,5,none⟩=false:=(h0 5 _ rfl).2;have c06:(w.alloc (Obj.cells #[Value.int IntKind.i64 e,Value.int IntKind.i64 a] 34)).cell? ⟨n0,6,none⟩=some (c6):=(h0 6 _ rfl).1;have z06:(w.alloc (Obj.cells #[Value.int IntKind.i64 e,Value.int IntKind.i64 a] 34)).frozen? ⟨n0,6,none⟩=false:=(h0 6 _ rfl).2;have c07:(w.alloc (Obj.cells #[Value.int IntKind.i64 e,Value.int IntKind.i64 a] 34)).cell? ⟨n0,7,none⟩=some (c7):=(h0 7 _ rfl).1;have z07:(w.alloc (Obj.cells #[Value.int IntKind.i64 e,Value.int IntKind.i64 a] 34)).frozen? ⟨n0,7,none⟩=false:=(h0 7 _ rfl).2;have c10:(w.alloc (Obj.cells #[Value.int IntKind.i64 e,Value.int IntKind.i64 a] 34)).cell? ⟨n1,0,none⟩=some (y0):=(h1 0 _ rfl).1;have z10:(w.alloc (Obj.cells #[Value.int IntKind.i64 e,Value.int IntKind.i64 a] 34)).frozen? ⟨n1,0,none⟩=false:=(h1 0 _ rfl).2;have c11:(w.alloc (Obj.cells #[Value.int IntKind.i64 e,Value.int IntKind.i64 a] 34)).cell? ⟨n1,1,none⟩=some (y1):=(h1 1 _ rfl).1;have z11:(w.alloc (Obj.cells #[Value.int IntKind.i64 e,Value.int IntKind.i64 a] 34)).frozen? ⟨n1,1,none⟩=false:=(h1 1 _ rfl).2;apply wpS_seq;apply wpS_region;simp only[Go.Proofs.Tryd.ntmps20,List.size_toArray,List.length_cons,List.length_nil,Nat.reduceAdd,Nat.reduceSub,Array.replicate_succ,
  Array.replicate_zero,List.push_toArray,List.append_toArray,List.nil_append,List.cons_append]
 simp[wpOpsS,go_sem,recoverD,hu,Exit.thenS,ha,List.range_succ];refine wpS_of_wp ?_
 go_wp2
 go_region
 have hfin:R ((((((((((((w.alloc (Obj.cells #[Value.int IntKind.i64 e,Value.int IntKind.i64 a] 34)).setCell { block:=n0,off:=0 } (.int .i64 0)).setCell { block:=n0,off:=1 } (.int .u64 0)).setCell { block:=n0,off:=2 } (.int .u64 0)).setCell { block:=n0,off:=3 } (.int .u64 0)).setCell { block:=n0,off:=4 } (.int .u64 0)).setCell { block:=n0,off:=5 } (.slice none 0 0)).setCell { block:=n0,off:=6 } (.int .i64 0)).setCell { block:=n0,off:=7 } (.int .i64 0)).setCell { block:=n1,off:=0 } (.int .i64 e)).setCell { block:=n1,off:=1 } (.int .i64 a)).drew):=by
  refine hR _ ?_ ?_ ?_
  . intro i v hi;rcases i with _|_|_|_|_|_|_|_|i
    case succ.succ.succ.succ.succ.succ.succ.succ=>simp at hi
    all_goals (simp only[List.getElem?_cons_zero,List.getElem?_cons_succ,Option.some.injEq] at hi;subst hi;constructor<;>simp[go_sem, *])
  . intro i v hi;rcases i with _|_|i
    case succ.succ=>simp at hi
    all_goals (simp only[List.getElem?_cons_zero,List.getElem?_cons_succ,Option.some.injEq] at hi;subst hi;constructor<;>simp[go_sem, *])
  . intro w0 S0 S hw hl0 hl1 hS0 hS1;exact (((((((((((hw.alloc _ _).setCell hl0 hS0).setCell hl0 hS0).setCell hl0 hS0).setCell hl0 hS0).setCell hl0 hS0).setCell hl0 hS0).setCell hl0 hS0).setCell hl0 hS0).setCell hl1 hS1).setCell hl1 hS1).drew
 change bodyPostS Go.Proofs.Tryd.prog Go.Proofs.Tryd.f20 c₀ cs _ _ _ _ _;clear hR h0 h1 c00 z00 c01 z01 c02 z02 c03 z03 c04 z04 c05 z05 c06 z06 c07 z07 c10 z10 c11 z11;cases c₀
 simp_all [bodyPostS,results,Go.Proofs.Tryd.results20]
theorem z190 {w:World}{s:List UInt8}{S:Hp}(hS:Lift.Sub S (hp w))(hlen:(256:Int)<s.length) :
 Calls Go.Proofs.Tryd.prog 8 #[.string ⟨⟨s⟩⟩] w fun r w'=>r=.returned (.tuple #[.agg #[Value.int IntKind.i64 0,Value.int IntKind.u64 0,Value.int IntKind.u64 0,Value.int IntKind.u64 0,Value.int IntKind.u64 0,Value.slice none 0 0,Value.int IntKind.i64 0,Value.int IntKind.i64 0],.agg #[.int .i64 3,.int .i64 256]])/\PsW w S S w':=by
 have h0:PsW w S S w:=⟨WF.refl _ _,Lift.Sub.refl _,hS,fun k hk=>.inl hk⟩
 have hn0:S w.heap.size=none:=by
  cases hx:S w.heap.size with
  | none=>rfl
  | some o=>exact absurd (z7i (hS _ _ hx)) (Nat.lt_irrefl _)
 have hn1:S (w.heap.size+1)=none:=by
  cases hx:S (w.heap.size+1) with
  | none=>rfl
  | some o=>exact absurd (z7i (hS _ _ hx)) (by omega)
 go_enter Go.Proofs.Tryd.func8,Go.Proofs.Tryd.ntmps8
 go_wp2
 simp[bodyPost,results,Go.Proofs.Tryd.results8,go_sem];exact (h0.alloc _ _).alloc _ _
set_option maxHeartbeats 16000000 in
theorem ps_ok {w:World}{s:List UInt8}{S:Hp}{at_:Int}{F:Hp->Value->Prop}(hlen:¬ (256:Int)<s.length)
 (hc:Calls Go.Proofs.Tryd.prog 21 #[.pointer (some ⟨w.heap.size+1+1,0,none⟩)] (((w.alloc (Obj.cells #[Value.int IntKind.i64 0,Value.int IntKind.u64 0,Value.int IntKind.u64 0,Value.int IntKind.u64 0,Value.int IntKind.u64 0,Value.slice none 0 0,Value.int IntKind.i64 0,Value.int IntKind.i64 0] 27)).alloc (Obj.cells #[Value.int IntKind.i64 0,Value.int IntKind.i64 0] 34)).alloc (Obj.cells #[Value.string ⟨⟨s⟩⟩,Value.int IntKind.i64 0,Value.int IntKind.i64 0] 58)) fun r w2=>∃ (k a0 a1 a2 a3 lo hi:Int) (sp:Option Addr) (sn sc:Nat) (S':Hp),r=.returned (.agg #[.int .i64 k,.int .u64 a0,.int .u64 a1,.int .u64 a2,.int .u64 a3,.slice sp sn sc,.int .i64 lo,.int .i64 hi])/\Cl w2 (w.heap.size) [.int .i64 0,.int .u64 0,.int .u64 0,.int .u64 0,.int .u64 0,.slice none 0 0,.int .i64 0,.int .i64 0]/\Cl w2 (w.heap.size+1) [.int .i64 0,.int .i64 0]/\w2.cell? ⟨w.heap.size+1+1,1,none⟩=some (.int .i64 at_)/\S' (w.heap.size)=none/\S' (w.heap.size+1)=none/\PsW w S S' w2/\F S' (.agg #[.int .i64 k,.int .u64 a0,.int .u64 a1,.int .u64 a2,.int .u64 a3,.slice sp sn sc,.int .i64 lo,.int .i64 hi]))
 (hat:¬ at_<s.length) :
 Calls Go.Proofs.Tryd.prog 8 #[.string ⟨⟨s⟩⟩] w fun r w'=>∃ v S',r=.returned (.tuple #[v,.agg #[.int .i64 0,.int .i64 0]])/\F S' v/\PsW w S S' w':=by
 have hmf:∀ (fn:Fn) (first cap:Array Value) (w:World),(Instr.makeFunc fn first cap).run Go.Proofs.Tryd.prog w=.ok (.func fn first cap) w:=fun _ _ _ _=>rfl
 have p1:w.heap.size+1+1≠w.heap.size:=by omega
 have p2:w.heap.size+1≠w.heap.size:=by omega
 go_enter_defers Go.Proofs.Tryd.func8,Go.Proofs.Tryd.ntmps8
 go_wp2_with (first
  | (go_at_call 21;refine hc.mono ?_;rintro r w2 ⟨k,a0,a1,a2,a3,lo,hi,sp,sn,sc,S',rfl,hC0,hC1,hat2,hs0,hs1,hP,hFF⟩;have c00:=(hC0 0 _ rfl).1;have z00:=(hC0 0 _ rfl).2;have c01:=(hC0 1 _ rfl).1;have z01:=(hC0 1 _ rfl).2;have c02:=(hC0 2 _ rfl).1;have z02:=(hC0 2 _ rfl).2;have c03:=(hC0 3 _ rfl).1;have z03:=(hC0 3 _ rfl).2;have c04:=(hC0 4 _ rfl).1;have z04:=(hC0 4 _ rfl).2;have c05:=(hC0 5 _ rfl).1;have z05:=(hC0 5 _ rfl).2;have c06:=(hC0 6 _ rfl).1;have z06:=(hC0 6 _ rfl).2;have c07:=(hC0 7 _ rfl).1;have z07:=(hC0 7 _ rfl).2;have c10:=(hC1 0 _ rfl).1;have z10:=(hC1 0 _ rfl).2;have c11:=(hC1 1 _ rfl).1;have z11:=(hC1 1 _ rfl).2;have hl0:w.heap.size<w2.heap.size:=ztn hC0;have hl1:w.heap.size+1<w2.heap.size:=ztn hC1;have H0:=Go.Lib.hid hC0;have H1:=Go.Lib.hid hC1;have HP:=Go.Lib.hid hP;have HF:=Go.Lib.hid hFF;clear hc hC0 hC1 hP hFF))
 have k0:Cl (((((((((((((((((((w2).setCell { block:=w.heap.size,off:=0 } (Value.int IntKind.i64 k)).setCell { block:=w.heap.size,off:=1 } (Value.int IntKind.u64 a0)).setCell { block:=w.heap.size,off:=2 } (Value.int IntKind.u64 a1)).setCell { block:=w.heap.size,off:=3 } (Value.int IntKind.u64 a2)).setCell { block:=w.heap.size,off:=4 } (Value.int IntKind.u64 a3)).setCell { block:=w.heap.size,off:=5 } (Value.slice sp sn sc)).setCell { block:=w.heap.size,off:=6 } (Value.int IntKind.i64 lo)).setCell { block:=w.heap.size,off:=7 } (Value.int IntKind.i64 hi)).setCell { block:=w.heap.size,off:=0 } (Value.int IntKind.i64 k)).setCell { block:=w.heap.size,off:=1 } (Value.int IntKind.u64 a0)).setCell { block:=w.heap.size,off:=2 } (Value.int IntKind.u64 a1)).setCell { block:=w.heap.size,off:=3 } (Value.int IntKind.u64 a2)).setCell { block:=w.heap.size,off:=4 } (Value.int IntKind.u64 a3)).setCell { block:=w.heap.size,off:=5 } (Value.slice sp sn sc)).setCell { block:=w.heap.size,off:=6 } (Value.int IntKind.i64 lo)).setCell { block:=w.heap.size,off:=7 } (Value.int IntKind.i64 hi)).setCell { block:=w.heap.size+1,off:=0 } (Value.int IntKind.i64 0)).setCell { block:=w.heap.size+1,off:=1 } (Value.int IntKind.i64 0)) (w.heap.size) [.int .i64 k,.int .u64 a0,.int .u64 a1,.int .u64 a2,.int .u64 a3,.slice sp sn sc,.int .i64 lo,.int .i64 hi]:=(z1q (z1q (z5p (z5p (z5p (z5p (z5p (z5p (z5p (z5p (z5p (z5p (z5p (z5p (z5p (z5p (z5p (z5p H0.out 0 _) 1 _) 2 _) 3 _) 4 _) 5 _) 6 _) 7 _) 0 _) 1 _) 2 _) 3 _) 4 _) 5 _) 6 _) 7 _) p2 0 _) p2 1 _)
 have k1:Cl (((((((((((((((((((w2).setCell { block:=w.heap.size,off:=0 } (Value.int IntKind.i64 k)).setCell { block:=w.heap.size,off:=1 } (Value.int IntKind.u64 a0)).setCell { block:=w.heap.size,off:=2 } (Value.int IntKind.u64 a1)).setCell { block:=w.heap.size,off:=3 } (Value.int IntKind.u64 a2)).setCell { block:=w.heap.size,off:=4 } (Value.int IntKind.u64 a3)).setCell { block:=w.heap.size,off:=5 } (Value.slice sp sn sc)).setCell { block:=w.heap.size,off:=6 } (Value.int IntKind.i64 lo)).setCell { block:=w.heap.size,off:=7 } (Value.int IntKind.i64 hi)).setCell { block:=w.heap.size,off:=0 } (Value.int IntKind.i64 k)).setCell { block:=w.heap.size,off:=1 } (Value.int IntKind.u64 a0)).setCell { block:=w.heap.size,off:=2 } (Value.int IntKind.u64 a1)).setCell { block:=w.heap.size,off:=3 } (Value.int IntKind.u64 a2)).setCell { block:=w.heap.size,off:=4 } (Value.int IntKind.u64 a3)).setCell { block:=w.heap.size,off:=5 } (Value.slice sp sn sc)).setCell { block:=w.heap.size,off:=6 } (Value.int IntKind.i64 lo)).setCell { block:=w.heap.size,off:=7 } (Value.int IntKind.i64 hi)).setCell { block:=w.heap.size+1,off:=0 } (Value.int IntKind.i64 0)).setCell { block:=w.heap.size+1,off:=1 } (Value.int IntKind.i64 0)) (w.heap.size+1) [.int .i64 0,.int .i64 0]:=(z5p (z5p (z1q (z1q (z1q (z1q (z1q (z1q (z1q (z1q (z1q (z1q (z1q (z1q (z1q (z1q (z1q (z1q H1.out p2.symm 0 _) p2.symm 1 _) p2.symm 2 _) p2.symm 3 _) p2.symm 4 _) p2.symm 5 _) p2.symm 6 _) p2.symm 7 _) p2.symm 0 _) p2.symm 1 _) p2.symm 2 _) p2.symm 3 _) p2.symm 4 _) p2.symm 5 _) p2.symm 6 _) p2.symm 7 _) 0 _) 1 _)
 have k2:PsW w S S' (((((((((((((((((((w2).setCell { block:=w.heap.size,off:=0 } (Value.int IntKind.i64 k)).setCell { block:=w.heap.size,off:=1 } (Value.int IntKind.u64 a0)).setCell { block:=w.heap.size,off:=2 } (Value.int IntKind.u64 a1)).setCell { block:=w.heap.size,off:=3 } (Value.int IntKind.u64 a2)).setCell { block:=w.heap.size,off:=4 } (Value.int IntKind.u64 a3)).setCell { block:=w.heap.size,off:=5 } (Value.slice sp sn sc)).setCell { block:=w.heap.size,off:=6 } (Value.int IntKind.i64 lo)).setCell { block:=w.heap.size,off:=7 } (Value.int IntKind.i64 hi)).setCell { block:=w.heap.size,off:=0 } (Value.int IntKind.i64 k)).setCell { block:=w.heap.size,off:=1 } (Value.int IntKind.u64 a0)).setCell { block:=w.heap.size,off:=2 } (Value.int IntKind.u64 a1)).setCell { block:=w.heap.size,off:=3 } (Value.int IntKind.u64 a2)).setCell { block:=w.heap.size,off:=4 } (Value.int IntKind.u64 a3)).setCell { block:=w.heap.size,off:=5 } (Value.slice sp sn sc)).setCell { block:=w.heap.size,off:=6 } (Value.int IntKind.i64 lo)).setCell { block:=w.heap.size,off:=7 } (Value.int IntKind.i64 hi)).setCell { block:=w.heap.size+1,off:=0 } (Value.int IntKind.i64 0)).setCell { block:=w.heap.size+1,off:=1 } (Value.int IntKind.i64 0)):=by
  have HQ:=HP.out;have hn0:w.heap.size<=w.heap.size:=Nat.le_refl _;have hn1:w.heap.size<=w.heap.size+1:=by omega
  exact ((((((((((((((((((HQ.setCell hn0 hs0).setCell hn0 hs0).setCell hn0 hs0).setCell hn0 hs0).setCell hn0 hs0).setCell hn0 hs0).setCell hn0 hs0).setCell hn0 hs0).setCell hn0 hs0).setCell hn0 hs0).setCell hn0 hs0).setCell hn0 hs0).setCell hn0 hs0).setCell hn0 hs0).setCell hn0 hs0).setCell hn0 hs0).setCell hn1 hs1).setCell hn1 hs1)
 clear c00 z00 c01 z01 c02 z02 c03 z03 c04 z04 c05 z05 c06 z06 c07 z07 c10 z10 c11 z11;generalize (((((((((((((((((((w2).setCell { block:=w.heap.size,off:=0 } (Value.int IntKind.i64 k)).setCell { block:=w.heap.size,off:=1 } (Value.int IntKind.u64 a0)).setCell { block:=w.heap.size,off:=2 } (Value.int IntKind.u64 a1)).setCell { block:=w.heap.size,off:=3 } (Value.int IntKind.u64 a2)).setCell { block:=w.heap.size,off:=4 } (Value.int IntKind.u64 a3)).setCell { block:=w.heap.size,off:=5 } (Value.slice sp sn sc)).setCell { block:=w.heap.size,off:=6 } (Value.int IntKind.i64 lo)).setCell { block:=w.heap.size,off:=7 } (Value.int IntKind.i64 hi)).setCell { block:=w.heap.size,off:=0 } (Value.int IntKind.i64 k)).setCell { block:=w.heap.size,off:=1 } (Value.int IntKind.u64 a0)).setCell { block:=w.heap.size,off:=2 } (Value.int IntKind.u64 a1)).setCell { block:=w.heap.size,off:=3 } (Value.int IntKind.u64 a2)).setCell { block:=w.heap.size,off:=4 } (Value.int IntKind.u64 a3)).setCell { block:=w.heap.size,off:=5 } (Value.slice sp sn sc)).setCell { block:=w.heap.size,off:=6 } (Value.int IntKind.i64 lo)).setCell { block:=w.heap.size,off:=7 } (Value.int IntKind.i64 hi)).setCell { block:=w.heap.size+1,off:=0 } (Value.int IntKind.i64 0)).setCell { block:=w.heap.size+1,off:=1 } (Value.int IntKind.i64 0))=W3 at *;refine leaves_cons (f:=20) (args:=#[.pointer (some ⟨w.heap.size,0,none⟩),.pointer (some ⟨w.heap.size+1,0,none⟩)]) (by simp) (by simp[go_sem]) ?_;refine ps_idle.mono ?_;rintro r u w5 ⟨⟨v,rfl⟩,rfl,rfl⟩;have m0:=zhi k0 (Obj.cells #[Value.int IntKind.i64 0,Value.int IntKind.i64 0] 34);have m1:=zhi k1 (Obj.cells #[Value.int IntKind.i64 0,Value.int IntKind.i64 0] 34);have e00:=(m0 0 _ rfl).1;have e01:=(m0 1 _ rfl).1;have e02:=(m0 2 _ rfl).1;have e03:=(m0 3 _ rfl).1;have e04:=(m0 4 _ rfl).1;have e05:=(m0 5 _ rfl).1;have e06:=(m0 6 _ rfl).1;have e07:=(m0 7 _ rfl).1;have e10:=(m1 0 _ rfl).1;have e11:=(m1 1 _ rfl).1;refine⟨_,?_,_,S',rfl,HF.out,k2.alloc _ _⟩;clear k0 k1 k2 m0 m1 hmf;simp[results,Go.Proofs.Tryd.results8,go_sem,e00,e01,e02,e03,e04,e05,e06,e07,e10,e11]
set_option maxHeartbeats 16000000 in
theorem z1dw {w:World}{s:List UInt8}{S:Hp}{e a:Int}(hlen:¬ (256:Int)<s.length)(hs0:S (w.heap.size)=none)(hs1:S (w.heap.size+1)=none)
 (hc:Calls Go.Proofs.Tryd.prog 21 #[.pointer (some ⟨w.heap.size+1+1,0,none⟩)] (((w.alloc (Obj.cells #[Value.int IntKind.i64 0,Value.int IntKind.u64 0,Value.int IntKind.u64 0,Value.int IntKind.u64 0,Value.int IntKind.u64 0,Value.slice none 0 0,Value.int IntKind.i64 0,Value.int IntKind.i64 0] 27)).alloc (Obj.cells #[Value.int IntKind.i64 0,Value.int IntKind.i64 0] 34)).alloc (Obj.cells #[Value.string ⟨⟨s⟩⟩,Value.int IntKind.i64 0,Value.int IntKind.i64 0] 58)) fun r w2=>r=.panicked [{ v:=.iface 34 (.agg #[.int .i64 e,.int .i64 a]),recovered:=false }]/\Cl w2 (w.heap.size) [.int .i64 0,.int .u64 0,.int .u64 0,.int .u64 0,.int .u64 0,.slice none 0 0,.int .i64 0,.int .i64 0]/\Cl w2 (w.heap.size+1) [.int .i64 0,.int .i64 0]/\PsW w S S w2) :
 Calls Go.Proofs.Tryd.prog 8 #[.string ⟨⟨s⟩⟩] w fun r w'=>r=.returned (.tuple #[.agg #[Value.int IntKind.i64 0,Value.int IntKind.u64 0,Value.int IntKind.u64 0,Value.int IntKind.u64 0,Value.int IntKind.u64 0,Value.slice none 0 0,Value.int IntKind.i64 0,Value.int IntKind.i64 0],.agg #[.int .i64 e,.int .i64 a]])/\PsW w S S w':=by
 have hmf:∀ (fn:Fn) (first cap:Array Value) (w:World),(Instr.makeFunc fn first cap).run Go.Proofs.Tryd.prog w=.ok (.func fn first cap) w:=fun _ _ _ _=>rfl
 have p1:w.heap.size+1+1≠w.heap.size:=by omega
 have p2:w.heap.size+1≠w.heap.size:=by omega
 go_enter_defers Go.Proofs.Tryd.func8,Go.Proofs.Tryd.ntmps8
 go_wp2_with (first
  | (go_at_call 21;refine hc.mono ?_;rintro r w2 ⟨rfl,hC0,hC1,hP⟩;have H0:=Go.Lib.hid hC0;have H1:=Go.Lib.hid hC1;have HP:=Go.Lib.hid hP;clear hc hC0 hC1 hP))
 refine leaves_cons (f:=20) (args:=#[.pointer (some ⟨w.heap.size,0,none⟩),.pointer (some ⟨w.heap.size+1,0,none⟩)]) (by simp) (by simp[go_sem]) ?_;refine (zsj (R:=fun w'=>Cl w' (w.heap.size) [.int .i64 0,.int .u64 0,.int .u64 0,.int .u64 0,.int .u64 0,.slice none 0 0,.int .i64 0,.int .i64 0]/\Cl w' (w.heap.size+1) [.int .i64 e,.int .i64 a]/\PsW w S S w') (zhi H0.out _) (zhi H1.out _) p2.symm (Nat.ne_of_lt (ztn H0.out)) (Nat.ne_of_lt (ztn H1.out)) (fun w' g0 g1 g2=>⟨g0,g1,g2 w S S HP.out (Nat.le_refl _) (Nat.le_succ _) hs0 hs1⟩)).mono ?_;rintro r u w5 ⟨⟨v,rfl⟩,rfl,m0,m1,hP5⟩;have e00:=(m0 0 _ rfl).1;have e01:=(m0 1 _ rfl).1;have e02:=(m0 2 _ rfl).1;have e03:=(m0 3 _ rfl).1;have e04:=(m0 4 _ rfl).1;have e05:=(m0 5 _ rfl).1;have e06:=(m0 6 _ rfl).1;have e07:=(m0 7 _ rfl).1;have e10:=(m1 0 _ rfl).1;have e11:=(m1 1 _ rfl).1;clear m0 m1 hmf H0 H1;simp[Leaves,settle,results,Go.Proofs.Tryd.results8,go_sem,e00,e01,e02,e03,e04,e05,e06,e07,e10,e11];exact hP5
set_option maxHeartbeats 16000000 in
theorem z1dx {w:World}{s:List UInt8}{S:Hp}{at_:Int}(hlen:¬ (256:Int)<s.length)
 (hc:Calls Go.Proofs.Tryd.prog 21 #[.pointer (some ⟨w.heap.size+1+1,0,none⟩)] (((w.alloc (Obj.cells #[Value.int IntKind.i64 0,Value.int IntKind.u64 0,Value.int IntKind.u64 0,Value.int IntKind.u64 0,Value.int IntKind.u64 0,Value.slice none 0 0,Value.int IntKind.i64 0,Value.int IntKind.i64 0] 27)).alloc (Obj.cells #[Value.int IntKind.i64 0,Value.int IntKind.i64 0] 34)).alloc (Obj.cells #[Value.string ⟨⟨s⟩⟩,Value.int IntKind.i64 0,Value.int IntKind.i64 0] 58)) fun r w2=>∃ (k a0 a1 a2 a3 lo hi:Int) (sp:Option Addr) (sn sc:Nat) (S':Hp),r=.returned (.agg #[.int .i64 k,.int .u64 a0,.int .u64 a1,.int .u64 a2,.int .u64 a3,.slice sp sn sc,.int .i64 lo,.int .i64 hi])/\Cl w2 (w.heap.size) [.int .i64 0,.int .u64 0,.int .u64 0,.int .u64 0,.int .u64 0,.slice none 0 0,.int .i64 0,.int .i64 0]/\Cl w2 (w.heap.size+1) [.int .i64 0,.int .i64 0]/\w2.cell? ⟨w.heap.size+1+1,1,none⟩=some (.int .i64 at_)/\S' (w.heap.size)=none/\S' (w.heap.size+1)=none/\PsW w S S' w2)
 (hat:at_<s.length) :
 Calls Go.Proofs.Tryd.prog 8 #[.string ⟨⟨s⟩⟩] w fun r w'=>r=.returned (.tuple #[.agg #[Value.int IntKind.i64 0,Value.int IntKind.u64 0,Value.int IntKind.u64 0,Value.int IntKind.u64 0,Value.int IntKind.u64 0,Value.slice none 0 0,Value.int IntKind.i64 0,Value.int IntKind.i64 0],.agg #[.int .i64 2,.int .i64 at_]])/\∃ S',PsW w S S' w':=by
 have hmf:∀ (fn:Fn) (first cap:Array Value) (w:World),(Instr.makeFunc fn first cap).run Go.Proofs.Tryd.prog w=.ok (.func fn first cap) w:=fun _ _ _ _=>rfl
 have p1:w.heap.size+1+1≠w.heap.size:=by omega
 have p2:w.heap.size+1≠w.heap.size:=by omega
 go_enter_defers Go.Proofs.Tryd.func8,Go.Proofs.Tryd.ntmps8
 go_wp2_with (first
  | (go_at_call 21;refine hc.mono ?_;rintro r w2 ⟨k,a0,a1,a2,a3,lo,hi,sp,sn,sc,S',rfl,hC0,hC1,hat2,hs0,hs1,hP⟩;have c00:=(hC0 0 _ rfl).1;have z00:=(hC0 0 _ rfl).2;have c01:=(hC0 1 _ rfl).1;have z01:=(hC0 1 _ rfl).2;have c02:=(hC0 2 _ rfl).1;have z02:=(hC0 2 _ rfl).2;have c03:=(hC0 3 _ rfl).1;have z03:=(hC0 3 _ rfl).2;have c04:=(hC0 4 _ rfl).1;have z04:=(hC0 4 _ rfl).2;have c05:=(hC0 5 _ rfl).1;have z05:=(hC0 5 _ rfl).2;have c06:=(hC0 6 _ rfl).1;have z06:=(hC0 6 _ rfl).2;have c07:=(hC0 7 _ rfl).1;have z07:=(hC0 7 _ rfl).2;have c10:=(hC1 0 _ rfl).1;have z10:=(hC1 0 _ rfl).2;have c11:=(hC1 1 _ rfl).1;have z11:=(hC1 1 _ rfl).2;have hl0:w.heap.size<w2.heap.size:=ztn hC0;have hl1:w.heap.size+1<w2.heap.size:=ztn hC1;have H0:=Go.Lib.hid hC0;have H1:=Go.Lib.hid hC1;have HP:=Go.Lib.hid hP;clear hc hC0 hC1 hP)
  | (go_at_call 22;refine fail_walk.mono ?_;rintro r w3 ⟨rfl,rfl⟩))
 have k0:Cl (((((((((w2).setCell { block:=w.heap.size,off:=0 } (Value.int IntKind.i64 k)).setCell { block:=w.heap.size,off:=1 } (Value.int IntKind.u64 a0)).setCell { block:=w.heap.size,off:=2 } (Value.int IntKind.u64 a1)).setCell { block:=w.heap.size,off:=3 } (Value.int IntKind.u64 a2)).setCell { block:=w.heap.size,off:=4 } (Value.int IntKind.u64 a3)).setCell { block:=w.heap.size,off:=5 } (Value.slice sp sn sc)).setCell { block:=w.heap.size,off:=6 } (Value.int IntKind.i64 lo)).setCell { block:=w.heap.size,off:=7 } (Value.int IntKind.i64 hi)) (w.heap.size) [.int .i64 k,.int .u64 a0,.int .u64 a1,.int .u64 a2,.int .u64 a3,.slice sp sn sc,.int .i64 lo,.int .i64 hi]:=(z5p (z5p (z5p (z5p (z5p (z5p (z5p (z5p H0.out 0 _) 1 _) 2 _) 3 _) 4 _) 5 _) 6 _) 7 _)
 have k1:Cl (((((((((w2).setCell { block:=w.heap.size,off:=0 } (Value.int IntKind.i64 k)).setCell { block:=w.heap.size,off:=1 } (Value.int IntKind.u64 a0)).setCell { block:=w.heap.size,off:=2 } (Value.int IntKind.u64 a1)).setCell { block:=w.heap.size,off:=3 } (Value.int IntKind.u64 a2)).setCell { block:=w.heap.size,off:=4 } (Value.int IntKind.u64 a3)).setCell { block:=w.heap.size,off:=5 } (Value.slice sp sn sc)).setCell { block:=w.heap.size,off:=6 } (Value.int IntKind.i64 lo)).setCell { block:=w.heap.size,off:=7 } (Value.int IntKind.i64 hi)) (w.heap.size+1) [.int .i64 0,.int .i64 0]:=(z1q (z1q (z1q (z1q (z1q (z1q (z1q (z1q H1.out p2.symm 0 _) p2.symm 1 _) p2.symm 2 _) p2.symm 3 _) p2.symm 4 _) p2.symm 5 _) p2.symm 6 _) p2.symm 7 _)
 have k2:PsW w S S' (((((((((w2).setCell { block:=w.heap.size,off:=0 } (Value.int IntKind.i64 k)).setCell { block:=w.heap.size,off:=1 } (Value.int IntKind.u64 a0)).setCell { block:=w.heap.size,off:=2 } (Value.int IntKind.u64 a1)).setCell { block:=w.heap.size,off:=3 } (Value.int IntKind.u64 a2)).setCell { block:=w.heap.size,off:=4 } (Value.int IntKind.u64 a3)).setCell { block:=w.heap.size,off:=5 } (Value.slice sp sn sc)).setCell { block:=w.heap.size,off:=6 } (Value.int IntKind.i64 lo)).setCell { block:=w.heap.size,off:=7 } (Value.int IntKind.i64 hi)):=((((((((HP.out.setCell (Nat.le_refl _) hs0).setCell (Nat.le_refl _) hs0).setCell (Nat.le_refl _) hs0).setCell (Nat.le_refl _) hs0).setCell (Nat.le_refl _) hs0).setCell (Nat.le_refl _) hs0).setCell (Nat.le_refl _) hs0).setCell (Nat.le_refl _) hs0)
 clear c00 z00 c01 z01 c02 z02 c03 z03 c04 z04 c05 z05 c06 z06 c07 z07 c10 z10 c11 z11;generalize (((((((((w2).setCell { block:=w.heap.size,off:=0 } (Value.int IntKind.i64 k)).setCell { block:=w.heap.size,off:=1 } (Value.int IntKind.u64 a0)).setCell { block:=w.heap.size,off:=2 } (Value.int IntKind.u64 a1)).setCell { block:=w.heap.size,off:=3 } (Value.int IntKind.u64 a2)).setCell { block:=w.heap.size,off:=4 } (Value.int IntKind.u64 a3)).setCell { block:=w.heap.size,off:=5 } (Value.slice sp sn sc)).setCell { block:=w.heap.size,off:=6 } (Value.int IntKind.i64 lo)).setCell { block:=w.heap.size,off:=7 } (Value.int IntKind.i64 hi))=W3 at *;refine leaves_cons (f:=20) (args:=#[.pointer (some ⟨w.heap.size,0,none⟩),.pointer (some ⟨w.heap.size+1,0,none⟩)]) (by simp) (by simp[go_sem]) ?_;refine (zsj (R:=fun w'=>Cl w' (w.heap.size) [.int .i64 0,.int .u64 0,.int .u64 0,.int .u64 0,.int .u64 0,.slice none 0 0,.int .i64 0,.int .i64 0]/\Cl w' (w.heap.size+1) [.int .i64 2,.int .i64 at_]/\PsW w S S' w') (zhi k0 _) (zhi k1 _) p2.symm (Nat.ne_of_lt (ztn k0)) (Nat.ne_of_lt (ztn k1)) (fun w' g0 g1 g2=>⟨g0,g1,g2 w S S' k2 (Nat.le_refl _) (Nat.le_succ _) hs0 hs1⟩)).mono ?_;rintro r u w5 ⟨⟨v,rfl⟩,rfl,m0,m1,hP5⟩;have e00:=(m0 0 _ rfl).1;have e01:=(m0 1 _ rfl).1;have e02:=(m0 2 _ rfl).1;have e03:=(m0 3 _ rfl).1;have e04:=(m0 4 _ rfl).1;have e05:=(m0 5 _ rfl).1;have e06:=(m0 6 _ rfl).1;have e07:=(m0 7 _ rfl).1;have e10:=(m1 0 _ rfl).1;have e11:=(m1 1 _ rfl).1;clear m0 m1 hmf k0 k1 H0 H1;simp[Leaves,settle,results,Go.Proofs.Tryd.results8,go_sem,e00,e01,e02,e03,e04,e05,e06,e07,e10,e11];exact⟨S',hP5⟩
theorem zxl {S:Hp}{y:NodT.den}{v:Value}(h:VR S NodT y v):∃ (k a0 a1 a2 a3 lo hi:Int) (sp:Option Addr) (sn sc:Nat),v=.agg #[.int .i64 k,.int .u64 a0,.int .u64 a1,.int .u64 a2,.int .u64 a3,.slice sp sn sc,.int .i64 lo,.int .i64 hi]:=by
 unfold VR at h;simp only[T.isAgg,if_true] at h;obtain⟨cs,e,h⟩:=h;obtain⟨c1,d1,e1,h1,c2,d2,e2,h2,c3,d3,e3,h3,c4,d4,e4,h4,c5,d5,e5,h5,h6⟩:=h;have h1:c1=[.int .i64 y.1]:=h1;have h4:c4=[.int .i64 y.2.2.2.1]:=h4;have h5:c5=[.int .i64 y.2.2.2.2.1]:=h5;have h6:d5=[]:=h6;obtain⟨hl,ha⟩:=h2;obtain⟨sp,sc,h3,_⟩:=h3;obtain⟨k,arr,sl,lo,hi,u⟩:=y
 match arr,hl with
 | [a0,a1,a2,a3],_ =>
   obtain⟨q0,r0,f0,g0,q1,r1,f1,g1,q2,r2,f2,g2,q3,r3,f3,g3,g4⟩:=ha;have g0:q0=[.int .u64 a0]:=g0;have g1:q1=[.int .u64 a1]:=g1;have g2:q2=[.int .u64 a2]:=g2;have g3:q3=[.int .u64 a3]:=g3;have g4:r3=[]:=g4;refine⟨k,a0,a1,a2,a3,lo,hi,sp,List.length sl,sc,?_⟩;rw[e];congr 1;apply Array.toList_inj.1;rw[e1,h1,e2,f0,g0,f1,g1,f2,g2,f3,g3,g4,e3,h3,e4,h4,e5,h5,h6];rfl
abbrev z16j:T:=.pair (.int .i64) (.pair (.int .i64) .unit)
def z198:NodT.den:=((0:Int),(([(0:Int),0,0,0]:List Int),(([]:List Go.Lift.Tree),((0:Int),((0:Int),())))))
theorem zu8 (S:Hp):VR S NodT z198 (.agg #[Value.int IntKind.i64 0,Value.int IntKind.u64 0,Value.int IntKind.u64 0,Value.int IntKind.u64 0,Value.int IntKind.u64 0,Value.slice none 0 0,Value.int IntKind.i64 0,Value.int IntKind.i64 0]):=(z181 (t:=NodT) (x:=z198) rfl).mono (zbn _)
theorem zwl (S:Hp)(e a:Int):VR S z16j (e,a,()) (.agg #[.int .i64 e,.int .i64 a]):=(z181 (t:=z16j) (x:=(e,a,())) rfl).mono (zbn _)
def z65 (N:Nat)(s:List UInt8):Option (z4q [NodT,z16j]) :=
 cond (decide ((256:Int)<s.length))
 (some (z198,((3,256,()),())))
 (orP (zo N (s,(0,(0,())))) (fun z=>some (z198,(z,())))
 ((ze N (s,(0,(0,())))).bind fun y =>
 cond (decide (y.2.1.2.1<(s.length:Int)))
 (some (z198,((2,y.2.1.2.1,()),())))
 (some (y.1,((0,0,()),())))))
def zcg (N:Nat):List A->Res:=z1a [(0,.v .str)] (fun x=>z65 N x.1) (zb8 (.tup [NodT,z16j]) 1)
theorem z1m4 {w:World}{n:Nat}{cs:Array Value}{E:Nat}(h:w.heap[n]?=some (.cells cs E (0,0))):Cl w n cs.toList:=by
 intro i v hi;have hi':cs[i]?=some v:=by rw[<- Array.getElem?_toList];exact hi
 constructor
 . simp[World.cell?,h,hi']
 . simp[World.frozen?,h]
def psW (w:World)(s:List UInt8):World:=((w.alloc (Obj.cells #[Value.int IntKind.i64 0,Value.int IntKind.u64 0,Value.int IntKind.u64 0,Value.int IntKind.u64 0,Value.int IntKind.u64 0,Value.slice none 0 0,Value.int IntKind.i64 0,Value.int IntKind.i64 0] 27)).alloc (Obj.cells #[Value.int IntKind.i64 0,Value.int IntKind.i64 0] 34)).alloc (Obj.cells #[Value.string ⟨⟨s⟩⟩,Value.int IntKind.i64 0,Value.int IntKind.i64 0] 58)
theorem zsk (w:World)(s:List UInt8):(psW w s).heap.size=w.heap.size+3/\(psW w s).heap[w.heap.size]?=some (.cells #[Value.int IntKind.i64 0,Value.int IntKind.u64 0,Value.int IntKind.u64 0,Value.int IntKind.u64 0,Value.int IntKind.u64 0,Value.slice none 0 0,Value.int IntKind.i64 0,Value.int IntKind.i64 0] 27 (0,0))/\(psW w s).heap[w.heap.size+1]?=some (.cells #[Value.int IntKind.i64 0,Value.int IntKind.i64 0] 34 (0,0)) ∧
 (psW w s).heap[w.heap.size+1+1]?=some (.cells #[Value.string ⟨⟨s⟩⟩,Value.int IntKind.i64 0,Value.int IntKind.i64 0] 58 (0,0))/\(∀ k,k<w.heap.size->(psW w s).heap[k]?=w.heap[k]?) ∧
 (psW w s).tape=w.tape/\(psW w s).os=w.os/\(psW w s).output=w.output:=by
 have hh:(psW w s).heap=((w.heap.push (.cells #[Value.int IntKind.i64 0,Value.int IntKind.u64 0,Value.int IntKind.u64 0,Value.int IntKind.u64 0,Value.int IntKind.u64 0,Value.slice none 0 0,Value.int IntKind.i64 0,Value.int IntKind.i64 0] 27 (0,0))).push (.cells #[Value.int IntKind.i64 0,Value.int IntKind.i64 0] 34 (0,0))).push (.cells #[Value.string ⟨⟨s⟩⟩,Value.int IntKind.i64 0,Value.int IntKind.i64 0] 58 (0,0)):=rfl;refine⟨by rw[hh];simp,?_,?_,?_,fun k hk=>?_,rfl,rfl,rfl⟩
 . rw[hh,Array.getElem?_push,if_neg (by simp;omega),Array.getElem?_push,if_neg (by simp),Array.getElem?_push,if_pos rfl]
 . rw[hh,Array.getElem?_push,if_neg (by simp),Array.getElem?_push,if_pos (by simp)]
 . rw[hh,Array.getElem?_push,if_pos (by simp)]
 . rw[hh,Array.getElem?_push,if_neg (by simp;omega),Array.getElem?_push,if_neg (by simp;omega),Array.getElem?_push,if_neg (by omega)]
theorem z191 {w:World}{s:List UInt8}{S:Hp}(hS:Lift.Sub S (hp w)):ArgsRel (hp (psW w s)) S [.box PrsT (s,(0,(0,())))] [.pointer (some ⟨w.heap.size+1+1,0,none⟩)] (fun i=>if i=0 then [w.heap.size+1+1] else [])/\Lift.Sub S (hp (psW w s)):=by
 obtain⟨f1,f2,f3,f4,f5,_⟩:=zsk w s;have hsub:Lift.Sub S (hp (psW w s)):=fun k q hk=>by
  have:=hS k q hk;simp only[hp] at this ⊢;rw[f5 k (z7i (hS k q hk))];exact this
 refine⟨zrp (w:=psW w s) (args:=[]) (vals:=[]) ?_ (by simp) (fun k hk=>?_) ⟨rfl,fun i x h=>(by cases h),fun _ _=>rfl,fun i j b hb=>(by cases hb),fun _=>.nil,fun i b hb=>(by cases hb)⟩,hsub⟩
 . refine⟨w.heap.size+1+1,_,_,_,[],rfl,rfl,f4,zgt _,RdO.of_rd PrsT _ _ ?_⟩;exact⟨[.string ⟨⟨s⟩⟩],_,rfl,rfl,[.int .i64 0],_,rfl,rfl,[.int .i64 0],[],rfl,rfl,rfl⟩
 . have:k=w.heap.size+1+1:=by simpa using hk
   subst this;cases hx:S (w.heap.size+1+1) with
   | none=>rfl
   | some o=>exact absurd (z7i (hS _ _ hx)) (by omega)
theorem zqq {w:World}{S:Hp}(hS:Lift.Sub S (hp w)){k:Nat}(hk:w.heap.size<=k):S k=none:=by
 cases hx:S k with
 | none=>rfl
 | some o=>exact absurd (z7i (hS _ _ hx)) (by omega)
theorem zx7 {w w2:World}{s:List UInt8}{S S':Hp}(hS:Lift.Sub S (hp w))(hwf:WF (psW w s) (fun b=>∃ i,b∈(fun i=>if i=0 then [w.heap.size+1+1] else []) i) w2)(hSS:Lift.Sub S S')(hSw:Lift.Sub S' (hp w2))
 (hnew:∀ b,S' b≠none->S b≠none\/b=w.heap.size+1+1\/(psW w s).heap.size<=b) :
 Cl w2 w.heap.size [.int .i64 0,.int .u64 0,.int .u64 0,.int .u64 0,.int .u64 0,.slice none 0 0,.int .i64 0,.int .i64 0]/\Cl w2 (w.heap.size+1) [.int .i64 0,.int .i64 0]/\S' w.heap.size=none/\S' (w.heap.size+1)=none/\PsW w S S' w2:=by
 obtain⟨f1,f2,f3,f4,f5,f6,f7,f8⟩:=zsk w s;have hin:∀ k,(∃ i,k∈(fun i=>if i=0 then [w.heap.size+1+1] else []) i)->k=w.heap.size+1+1:=by
  rintro k ⟨i,hi⟩;by_cases hi0:i=0
  . simpa[hi0] using hi
  . simp[hi0] at hi
 have g0:=hwf.same w.heap.size (by omega) (fun h=>by have:=hin _ h;omega);have g1:=hwf.same (w.heap.size+1) (by omega) (fun h=>by have:=hin _ h;omega);rw[f2] at g0;rw[f3] at g1;refine⟨z1m4 g0,z1m4 g1,?_,?_,⟨by have:=hwf.size;omega,fun k hk _=>?_,hwf.tape.trans f6,hwf.os.trans f7,hwf.output.trans f8⟩,hSS,hSw,fun k hk=>?_⟩
 . cases hx:S' w.heap.size with
   | none=>rfl
   | some o =>
     rcases hnew _ (by rw[hx];simp) with h|h|h
     . exact absurd (zqq hS (Nat.le_refl _)) h
     . omega
     . omega
 . cases hx:S' (w.heap.size+1) with
   | none=>rfl
   | some o =>
     rcases hnew _ (by rw[hx];simp) with h|h|h
     . exact absurd (zqq hS (by omega)) h
     . omega
     . omega
 . rw[hwf.same k (by omega) (fun h=>by have:=hin _ h;omega),f5 k hk]
 . rcases hnew k hk with h|h|h
   . exact .inl h
   . exact .inr (by omega)
   . exact .inr (by omega)
theorem z1dy {w:World}{S:Hp}{x:PrsT.den}{b:Nat}{o:List Nat}(h:ARel (hp w) S (fun _=>undef) (.box PrsT x) (.pointer (some ⟨b,0,none⟩)) o):w.cell? ⟨b,1,none⟩=some (.int .i64 x.2.1):=by
 obtain⟨b',cs,E,fr,bs,e,e',hb,hf,hr⟩:=h;cases e';obtain⟨_,c1,d1,hc,h1,c2,d2,hc2,h2,h3⟩:=RdO.rd PrsT x _ _ rfl hr;have k1:c1=[.string ⟨⟨x.1⟩⟩]:=h1;have k2:c2=[.int .i64 x.2.1]:=h2;have:cs[1]?=some (.int .i64 x.2.1):=by
  rw[<- Array.getElem?_toList,hc,k1,hc2,k2];rfl
 have hb:w.heap[b]?=some (.cells cs E fr):=hb;simp[World.cell?,hb,this]
theorem zqr {w w':World}{s:List UInt8}{S S':Hp}{ob:Nat->List Nat}{y:z4q [NodT,z16j]}{v1 v2:Value}(hob:∀ i,ob i=[])(hP:PsW w S S' w')(h1:VR S' NodT y.1 v1)(h2:VR S' z16j y.2.1 v2) :
 Lift.Ends w S (mkS [(0,.v .str)] 0 (s,())) [.string ⟨⟨s⟩⟩] ob (zb8 (.tup [NodT,z16j]) 1 y).1 (zb8 (.tup [NodT,z16j]) 1 y).2 (.returned (.tuple #[v1,v2])) w':=by
 obtain⟨k1,k2,k3,k4⟩:=hP;refine⟨_,S',[],ob,rfl,⟨k1.size,fun k hk _=>k1.same k hk (fun h=>h),k1.tape,k1.os,k1.output⟩,k2,k3,fun k hk=>?_,⟨⟨rfl,_,rfl,.cons h1 (.cons h2 .nil)⟩,rfl⟩,(fun k hk=>by cases hk),.nil,?_,?_,?_,?_,fun _ h=>h⟩
 . rcases k4 k hk with h|h
   . exact .inl h
   . exact .inr (.inr h)
 . intro i x hx hbx
   match i with
   | 0=>simp[mkS,zao,AS.mk] at hx;subst hx;simp[zbc] at hbx
   | i+1=>simp[mkS,zao] at hx
 . intro i k hk;rw[hob i] at hk;cases hk
 . intro i j k hi;rw[hob i] at hi;cases hi
 . intro i;rw[hob i];exact .nil
theorem zhv (N:Nat):Contract Go.Proofs.Tryd.prog glob 8 (zcg N):=by
 refine Contract.hand ⟨_,Go.Proofs.Tryd.func8,by kernel_rfl,by decide⟩ ?_;intro w S vals ob x y har hS hg hy;obtain⟨s,u⟩:=x;cases u;have hob:∀ i,ob i=[]:=by
  intro i;rcases i with _|i
  . obtain⟨⟨v,hv,hA⟩,_⟩:=har.rel 0 _ rfl;exact hA.2
  . exact har.out _ (by simp[mkS,zao])
 have hvals:vals=[.string ⟨⟨s⟩⟩]:=by
  have hlen:=har.len;obtain⟨⟨v0,hv0,hA0⟩,_⟩:=har.rel 0 _ rfl;have e0:v0=.string ⟨⟨s⟩⟩:=VR.str_inv hA0.1
  match vals,hlen with
  | [a],_=>cases hv0;rw[e0]
 subst hvals;have hy:z65 N s=some y:=hy;unfold z65 at hy;by_cases hlen:(256:Int)<s.length
 . rw[decide_eq_true hlen] at hy;cases hy;refine (z190 hS hlen).mono ?_;rintro r w' ⟨rfl,hP⟩;exact zqr hob hP (zu8 _) (zwl _ _ _)
 . rw[decide_eq_false hlen] at hy;simp only[cond_false] at hy;obtain⟨hA,hSB⟩:=z191 (s:=s) hS;rcases zqv hy with⟨z,hz,hK⟩|⟨_,hK⟩
   . cases hK;have hc:=(z63 N).2 (psW w s) S _ _ _ hA hSB hg z hz;refine (z1dw hlen (zqq hS (Nat.le_refl _)) (zqq hS (Nat.le_succ _)) (e:=z.1) (a:=z.2.1) (hc.mono ?_)).mono ?_
     . rintro e w2 ⟨rfl,hwf,hsub⟩;obtain⟨q1,q2,q3,q4,q5⟩:=zx7 hS hwf (Lift.Sub.refl S) hsub (fun b hb=>.inl hb);exact⟨rfl,q1,q2,q5⟩
     . rintro r w' ⟨rfl,hP⟩;obtain⟨z1,z2,u⟩:=z;exact zqr hob hP (zu8 _) (zwl _ _ _)
   . obtain⟨q,hq,hK⟩:=Option.bind_eq_some_iff.1 hK;have hc:=(z2r N).2 (psW w s) S _ _ _ hA hSB hg q hq;have key:∀ e w2,Lift.Ends (psW w s) S [.box PrsT (s,(0,(0,())))] [.pointer (some ⟨w.heap.size+1+1,0,none⟩)] (fun i=>if i=0 then [w.heap.size+1+1] else []) (.v NodT q.1) [.box PrsT q.2.1] e w2 →
      ∃ v S',e=.returned v/\VR S' NodT q.1 v/\Cl w2 w.heap.size [.int .i64 0,.int .u64 0,.int .u64 0,.int .u64 0,.int .u64 0,.slice none 0 0,.int .i64 0,.int .i64 0]/\Cl w2 (w.heap.size+1) [.int .i64 0,.int .i64 0]/\w2.cell? ⟨w.heap.size+1+1,1,none⟩=some (.int .i64 q.2.1.2.1)/\S' w.heap.size=none/\S' (w.heap.size+1)=none/\PsW w S S' w2:=by
      rintro e w2 ⟨v,S',o,ob',rfl,hwf,hSS,hSw,hnew,⟨hr,_⟩,_,_,hbox,_⟩;obtain⟨x2,v2,g1,g2,_,g4⟩:=hbox 0 _ rfl rfl;simp at g1 g2;subst g1;subst g2;obtain⟨q1,q2,q3,q4,q5⟩:=zx7 hS hwf hSS hSw (fun b hb=>by
       rcases hnew b hb with h|⟨i,hi⟩|h
       . exact .inl h
       . by_cases hi0:i=0
         . simp[hi0] at hi;exact .inr (.inl hi)
         . simp[hi0] at hi
       . exact .inr (.inr h))
      exact⟨v,S',rfl,hr.1,q1,q2,z1dy g4,q3,q4,q5⟩
     by_cases hat:q.2.1.2.1<(s.length:Int)
     . rw[decide_eq_true hat] at hK;cases hK;refine (z1dx (S:=S) hlen (at_:=q.2.1.2.1) (hc.mono ?_) hat).mono ?_
       . intro e w2 h;obtain⟨v,S',rfl,hv,q1,q2,q3,q4,q5,q6⟩:=key e w2 h;obtain⟨k,a0,a1,a2,a3,lo,hi,sp,sn,sc,rfl⟩:=zxl hv;exact⟨k,a0,a1,a2,a3,lo,hi,sp,sn,sc,S',rfl,q1,q2,q3,q4,q5,q6⟩
       . rintro r w' ⟨rfl,S',hP⟩;exact zqr hob hP (zu8 _) (zwl _ _ _)
     . rw[decide_eq_false hat] at hK;cases hK;refine (ps_ok (S:=S) hlen (at_:=q.2.1.2.1) (F:=fun S' v=>VR S' NodT q.1 v) (hc.mono ?_) hat).mono ?_
       . intro e w2 h;obtain⟨v,S',rfl,hv,q1,q2,q3,q4,q5,q6⟩:=key e w2 h;obtain⟨k,a0,a1,a2,a3,lo,hi,sp,sn,sc,rfl⟩:=zxl hv;exact⟨k,a0,a1,a2,a3,lo,hi,sp,sn,sc,S',rfl,q1,q2,q3,q4,q5,q6,hv⟩
       . rintro r w' ⟨v,S',rfl,hv,hP⟩;exact zqr hob hP hv (zwl _ _ _)
end
end Go.Proofs.YthgcpalmjcomlaaDoorLg
set_option linter.all false
set_option maxRecDepth 100000
namespace Go.Proofs.YthgcpalmjcomlaaDoorLg
noncomputable section
open Go Go.Lift Go.Proofs
section
variable {P:Program} {w:World} (a:Addr) (m:Mode)
@[local go_sem] theorem zlo (fn:Fn) (x y:Array Value):(store a (.func fn x y) m).run P w=stored P w a (.func fn x y) m:=run_store P w a _ m rfl
end
attribute [local go_sem] zlo
theorem z14e {w0 w:World}(h:WF w0 (fun k=>k∈([]:List Nat)) w):WF w0 (fun _=>False) w:=⟨h.size,fun k hk _=>h.same k hk (by simp),h.tape,h.os,h.output⟩
theorem zuv {w0 w:World}{S0:Hp}(hS:Lift.Sub S0 (hp w0))(h:WF w0 (fun _=>False) w):NSt w0 S0 w S0 []:=by
 refine⟨h,Lift.Sub.refl _,fun k o hk=>?_,fun _ h=>.inl h,fun p hp=>by cases hp⟩;have h1:=hS k o hk;simp only[hp] at h1 ⊢;rw[h.same k (Array.getElem?_eq_some_iff.1 h1).1 (fun h=>h)];exact h1
theorem RSt.wf14 {w0 w:World}{S0:Hp}{B O F W:Nat}{st:ziy}{X:List (Nat×Array Value×Nat)}(h:RSt w0 S0 B O F W st X w):WF w0 (fun _=>False) w:=by
 obtain⟨⟨S,o,h1,_⟩,_⟩:=h;exact z14e h1
theorem z13r {w0 w:World}{S0 S:Hp}{L:List (Nat×Array Value×Nat)}(h:NSt w0 S0 w S L):BSt z101 w0 S0 [] w.heap.size (w.alloc (.cells #[.pointer none,.slice none 0 0] 45)) ((),(z3j [],())) L:=by
 have hw:=h.alloc #[.pointer none,.slice none 0 0] 45;have hm:=hw.own _ (.head _);simp only at hm;refine⟨S,[w.heap.size],⟨hw.wf.size,fun k hk _=>hw.wf.same k hk (fun h=>h),hw.wf.tape,hw.wf.os,hw.wf.output⟩,hw.sub,hw.inw,fun k hk=>?_,?_,by simp,fun k hk=>?_,fun p hp=>?_⟩
 . rcases hw.new k hk with h|h
   . exact .inl h
   . exact .inr (.inr h)
 . refine⟨w.heap.size,#[.pointer none,.slice none 0 0],45,(0,0),[],rfl,rfl,hm.2.2,?_,?_⟩
   . exact⟨Nat.le_refl _,fun i _ h=>by omega⟩
   . exact⟨[.pointer none],[.slice none 0 0],[],[],rfl,rfl,⟨rfl,_,rfl,rfl,.inl rfl⟩,[.slice none 0 0],[],[],[],rfl,rfl,⟨_,rfl,.inl ⟨rfl,⟨none,rfl,fun _ _=>rfl⟩,rfl⟩⟩,rfl,rfl⟩
 . rw[List.mem_singleton] at hk;subst hk;exact⟨hm.1,.inr hm.2.1⟩
 . obtain⟨p1,p2,p3⟩:=hw.own p (.tail _ hp);refine⟨p1,fun hk=>?_,p2,p3⟩;rw[List.mem_singleton] at hk;have:=(Array.getElem?_eq_some_iff.1 (h.own p hp).2.2).1;omega
theorem z111 {w0 w:World}{S0 S:Hp}{L:List (Nat×Array Value×Nat)}(h:NSt w0 S0 w S L) :
 RSt w0 S0 w.heap.size (w.heap.size+1) (w.heap.size+1+1) (w.heap.size+1+1+1) ([],((0:Int),true)) L
  ((((w.alloc (.cells #[.pointer none,.slice none 0 0] 45)).alloc (.cells #[.int .i64 0] 3)).alloc (.cells #[.bool true] 4)).alloc (.cells #[z14a w.heap.size (w.heap.size+1) (w.heap.size+1+1) (w.heap.size+1+1+1)] 46)):=by
 have h1:=z13r h;have h2:=((h1.alloc #[.int .i64 0] 3).alloc #[.bool true] 4).alloc #[z14a w.heap.size (w.heap.size+1) (w.heap.size+1+1) (w.heap.size+1+1+1)] 46;have s1:(w.alloc (.cells #[.pointer none,.slice none 0 0] 45)).heap.size=w.heap.size+1:=by simp
 have s2:((w.alloc (.cells #[.pointer none,.slice none 0 0] 45)).alloc (.cells #[.int .i64 0] 3)).heap.size=w.heap.size+1+1:=by simp
 have s3:(((w.alloc (.cells #[.pointer none,.slice none 0 0] 45)).alloc (.cells #[.int .i64 0] 3)).alloc (.cells #[.bool true] 4)).heap.size=w.heap.size+1+1+1:=by simp
 rw[s1,s2,s3] at h2;have hlt:∀ p∈L,p.1<w.heap.size:=fun p hp=>(Array.getElem?_eq_some_iff.1 (h.own p hp).2.2).1
 refine⟨h2.swap (fun p hp=>?_),by omega,by omega,by omega,fun p hp=>by have:=hlt p hp;omega⟩;simp only[List.mem_cons] at hp ⊢;rcases hp with h|h|h|h
 . exact .inr (.inr (.inl h))
 . exact .inr (.inl h)
 . exact .inl h
 . exact .inr (.inr (.inr h))
theorem zph (s:List UInt8):zqx (z3j s)=true:=by
 unfold zqx z3j;rw[List.all_eq_true];intro n hn;obtain⟨b,_,rfl⟩:=List.mem_map.1 hn;have:=b.toNat_lt;simp;omega
theorem zk6 (s:List UInt8):zdq (z3j s)=s:=by
 unfold zdq z3j;rw[List.map_map]
 conv=>rhs;rw[<- List.map_id s]
 apply List.map_congr_left;intro b _;simp
theorem zyl {w0 w:World}{S0:Hp}{B O F W:Nat}{st:ziy}{X:List (Nat×Array Value×Nat)}(h:RSt w0 S0 B O F W st X w)(hl:st.1.length<=256) :
 Calls Go.Proofs.Tryd.prog 19 #[.pointer (some ⟨B,0,none⟩)] w fun q w'=>q=.returned (.string ⟨⟨st.1⟩⟩)/\WF w0 (fun _=>False) w':=by
 obtain⟨⟨S,o,h1,h2,h3,h4,h5,h6,h7,_⟩,_⟩:=h;have hy:zs1 (((),(z3j st.1,())),())=some (st.1,(((),((),())),())):=by
  unfold zs1;dsimp only;rw[zph,show decide _=true from decide_eq_true (by simp[z3j];omega),zk6];rfl
 have har:=zrp h5 h6 (fun k hk=>(h7 k hk).1) (zo8 (w:=w) (S:=S));refine ((z16o zd4).2 w S _ _ _ har h3 (zf7 S) _ hy).mono ?_;rintro e w' ⟨v,S',q,ob',rfl,hwf,hSS,hSw,hnew,⟨hr,_⟩,_⟩;have hin:∀ k,(∃ i,k∈(fun i=>if i=0 then o else []) i)->k∈o:=by
  rintro k ⟨i,hi⟩;by_cases hi0:i=0
  . simpa[hi0] using hi
  . simp[hi0] at hi
 have hv:VR S' .str st.1 v:=hr.1;refine⟨by rw[VR.str_inv hv],⟨Nat.le_trans h1.size hwf.size,fun k hk _=>?_,hwf.tape.trans h1.tape,hwf.os.trans h1.os,hwf.output.trans h1.output⟩⟩;rw[hwf.same k (by have:=h1.size;omega) (fun hh=>by
  rcases (h7 k (hin k hh)).2 with h|h
  . cases h
  . omega)]
 exact h1.same k hk (by simp)
def z5i (N:Nat)(n:NodT.den):Option (List UInt8×(Bool×Unit)) :=
 (z64 N n).bind fun r=>if r=false then some ([],(false,())) else
 (zod N N n false ([],((0:Int),true))).bind fun st=>if st.2.2=true/\st.1.length<=256 then some (st.1,(true,())) else some ([],(false,()))
def zar (N:Nat):List A->Res:=z1a [(0,.v NodT)] (fun x=>z5i N x.1) (zb8 (.tup [.str,.bool]) 1)
set_option maxHeartbeats 30000000 in
theorem zua (N:Nat) {w:World} {S:Hp} (hS:Lift.Sub S (hp w)) (hg:GlobOk glob S) {n:NodT.den} {nv:Value} (hn:VR S NodT n nv) {y:List UInt8×(Bool×Unit)} (hy:z5i N n=some y) :
 Calls Go.Proofs.Tryd.prog 7 #[nv] w fun q w'=>q=.returned (.tuple #[.string ⟨⟨y.1⟩⟩,.bool y.2.1])/\WF w (fun _=>False) w':=by
 suffices HX:∀ R:Ending->World->Prop,Go.RowKit.Hid (∀ w',WF w (fun _=>False) w'->R (.returned (.tuple #[.string ⟨⟨y.1⟩⟩,.bool y.2.1])) w')->Calls Go.Proofs.Tryd.prog 7 #[nv] w R from HX _ (Go.Lib.hid (fun w' a=>⟨rfl,a⟩))
 intro R HR;obtain⟨r,hr,hy⟩:=Option.bind_eq_some_iff.1 hy;have hn':∃ cs,nv=.agg cs/\Rd S NodT n cs.toList:=hn;obtain⟨cs,rfl,hrd⟩:=hn';obtain⟨a,cap,c0,c1,c2,c3,hcs,hkids⟩:=zig hrd;obtain rfl:cs=#[.int .i64 n.1,.int .u64 c0,.int .u64 c1,.int .u64 c2,.int .u64 c3,.slice a n.2.2.1.length cap,.int .i64 n.2.2.2.1,.int .i64 n.2.2.2.2.1]:=by
  apply Array.toList_inj.1;rw[hcs]
 have hal:=(NSt.start hS).alloc #[.int .i64 n.1,.int .u64 c0,.int .u64 c1,.int .u64 c2,.int .u64 c3,.slice a n.2.2.1.length cap,.int .i64 n.2.2.2.1,.int .i64 n.2.2.2.2.1] 27;have HRT:=Go.Lib.hid (hal.plain (zhu N) hg (args:=[.v NodT n]) (vals:=[.agg #[.int .i64 n.1,.int .u64 c0,.int .u64 c1,.int .u64 c2,.int .u64 c3,.slice a n.2.2.1.length cap,.int .i64 n.2.2.2.1,.int .i64 n.2.2.2.2.1]]) (zhk ⟨hn,rfl⟩ rfl) hr);have HG:=Go.Lib.hid hg;have HN:=Go.Lib.hid hn;cases r with
 | false =>
   rw[if_pos rfl] at hy;obtain rfl:=Option.some.inj hy;clear hy hr hg hn hal hrd hcs hkids hS HG HN
   go_enter Go.Proofs.Tryd.func7,Go.Proofs.Tryd.ntmps7
   go_wp2_with (go_at_call 12;refine HRT.out.mono ?_;rintro q1 w1 ⟨v1,S1,o1,rfl,hr1,hs1,hw1⟩;have ev1:=VR.bool_inv hr1.1;subst ev1;have HW1:=Go.Lib.hid hw1;clear hr1 hw1 hs1 HRT)
   exact HR.out _ HW1.out.wf
 | true =>
   rw[if_neg (by decide)] at hy;obtain⟨st,hst,hy⟩:=Option.bind_eq_some_iff.1 hy;have HST:=Go.Lib.hid hst;have HY:=Go.Lib.hid hy;clear hst hy hr hg hn hal hrd hcs hkids hS
   go_enter Go.Proofs.Tryd.func7,Go.Proofs.Tryd.ntmps7
   go_upto_region 9 with (first
    | (go_at_call 12;refine HRT.out.mono ?_;rintro q1 w1 ⟨v1,S1,o1,rfl,hr1,hs1,hw1⟩;have ev1:=VR.bool_inv hr1.1;subst ev1;have h4:=z111 hw1;have y8:=h4.eight (.head _);unfold z14a at y8;have HWR:=Go.Lib.hid (zl1 N HG.out N n false _ _ ([],((0:Int),true)) st _ HN.out h4 HST.out);unfold z14a at HWR;clear hr1 hw1 hs1 HRT h4)
    | (go_at_call 13;refine HWR.out.mono ?_;rintro q5 w5 ⟨rfl,hw5⟩;have hF1:=hw5.getF.1;have HW5:=Go.Lib.hid hw5;clear hw5 HWR y8))
   cases hb:st.2.2 with
   | false =>
     rw[hb] at hF1;have hy2:=HY.out;rw[if_neg (by rw[hb];simp)] at hy2;obtain rfl:=Option.some.inj hy2;clear hb hy2 HY
     go_wp2
     exact HR.out _ HW5.out.wf14
   | true =>
     rw[hb] at hF1;have HLN:=Go.Lib.hid (HW5.out.len N);by_cases hl2:st.1.length<=256
     . have hy2:=HY.out;rw[if_pos ⟨hb,hl2⟩] at hy2;obtain rfl:=Option.some.inj hy2;have hl3:¬ ((256:Int)<(st.1.length:Int)):=by omega
       have HL2:=Go.Lib.hid hl2;clear hb hy2 HY hl2
       go_wp2_with (first
        | (go_at_call 15;refine HLN.out.mono ?_;rintro q6 w6 ⟨rfl,hw6⟩;have HSR:=Go.Lib.hid (zyl hw6 HL2.out);clear HLN hw6)
        | (go_at_call 19;refine HSR.out.mono ?_;rintro q7 w7 ⟨rfl,hw7⟩;have HW7:=Go.Lib.hid hw7;clear HSR hw7))
       exact HR.out _ HW7.out
     . have hy2:=HY.out;rw[if_neg (fun h=>hl2 h.2)] at hy2;obtain rfl:=Option.some.inj hy2;have hl3:(256:Int)<(st.1.length:Int):=by omega
       clear hb hy2 HY hl2
       go_wp2_with (go_at_call 15;refine HLN.out.mono ?_;rintro q6 w6 ⟨rfl,hw6⟩;have HW6:=Go.Lib.hid hw6;clear HLN hw6)
       exact HR.out _ HW6.out.wf14
theorem z10h (h S:Hp)(x:List UInt8)(c:Bool):ARel h S (fun _=>undef) (.tup [⟨.str,x⟩,⟨.bool,c⟩]) (.tuple #[.string ⟨⟨x⟩⟩,.bool c]) [] :=
 ⟨rfl,_,rfl,.cons VR.str (.cons VR.bool .nil)⟩
theorem zg8 (N:Nat):Contract Go.Proofs.Tryd.prog glob 7 (zar N):=by
 refine Contract.hand ⟨_,Go.Proofs.Tryd.func7,by kernel_rfl,by decide⟩ ?_;rintro w S vals ob ⟨n,⟨⟩⟩ y har hS hg hy;obtain⟨x,e,⟨⟩⟩:=y;obtain⟨⟨u1,e1,r1⟩,_⟩:=har.rel 0 _ rfl;have hob:∀ i,ob i=[]:=by
  intro i
  match i with
  | 0=>exact r1.2
  | i+1=>exact har.out _ (by simp[mkS,zao])
 have hvals:vals=[u1]:=by
  match vals,har.len,e1 with
  | [a],_,h1=>simp at h1;rw[h1]
 subst hvals;refine (zua N hS hg r1.1 hy).mono ?_;rintro q w' ⟨rfl,hg1⟩;refine (zuv hS hg1).ends hob (fun y hy=>?_) (z10h _ _ x e) rfl;have hy:y∈[A.v NodT n]:=hy;rw[List.mem_singleton.1 hy];rfl
end
end Go.Proofs.YthgcpalmjcomlaaDoorLg
set_option linter.all false
set_option maxRecDepth 100000
namespace Go.Proofs.YthgcpalmjcomlaaDoorLg
noncomputable section
open Go Go.Lift
def z1bk:Code:=(Tryd.f6.body).getD .skip
def L_76:List (List Nat×List Nat):=[([0],[]),([0,1],[1,2]),([0,1,1],[2,3,4]),([0,1,1,1],[5,2,3,4,6]),([0,1,1,1,1],[2,3,4,6,7,8]),([0,1,1,1,1,1],[0]),([1,1,1,1,1,1],[0])]
def E_76 (N:Nat):Env:=z24 tys glob [(7,zar N),(8,zcg N),(11,zas N)] [] [] [] false [] []
theorem z1mv (N:Nat):EnvOk Tryd.prog (E_76 N):=zg mixed z12 (FnsOk.cons (zg8 N) (FnsOk.cons (zhv N) (FnsOk.cons (zga N) (FnsOk.nil)))) (ItsOk.nil)
def z46 (N:Nat):Option Bool :=
 (z65 N ([(40:UInt8),(97:UInt8),(41:UInt8),(40:UInt8),(98:UInt8),(124:UInt8),(99:UInt8),(41:UInt8),(123:UInt8),(48:UInt8),(44:UInt8),(49:UInt8),(125:UInt8)]:List UInt8)).bind fun y =>
 (z5i N y.1).bind fun y1 =>
 (z65 N ([(91:UInt8),(97:UInt8),(45:UInt8),(98:UInt8),(93:UInt8)]:List UInt8)).bind fun y2 =>
 (z5i N y2.1).bind fun y3 =>
 cond (eqD (T.pair (T.int IntKind.i64) (T.pair (T.int IntKind.i64) T.unit)) y.2.1 ((0:Int),((0:Int),())))
 (cond (y1.1 == ([(97:UInt8),(40:UInt8),(98:UInt8),(124:UInt8),(99:UInt8),(41:UInt8),(63:UInt8)]:List UInt8))
 (cond y1.2.1
 (cond (eqD (T.pair (T.int IntKind.i64) (T.pair (T.int IntKind.i64) T.unit)) y2.2.1 ((0:Int),((0:Int),())))
 (cond (y3.1 == ([(91:UInt8),(97:UInt8),(98:UInt8),(93:UInt8)]:List UInt8))
 (cond y3.2.1
 (some ((zdq ([(92:Int),(46:Int)]:List Int)) == ([(92:UInt8),(46:UInt8)]:List UInt8)))
 (some false))
 (some false))
 (some false))
 (some false))
 (some false))
 (some false)
def t_76 (N:Nat):Tab Bool:=[]
theorem z19e (N:Nat)(x:z1e []):z91 (E_76 N) N (t_76 N) L_76 Tryd.f6 (mkS [] 0 x) (z5j (.v .bool) 0)=z46 N:=by kernel_rfl
def zah (N:Nat):List A->Res:=z1a [] (fun x=>z46 N) (zb8 (.v .bool) 0)
theorem zhp (N:Nat):Contract Tryd.prog glob 6 (zah N) :=
 Contract.of (E:=E_76 N) (H:=t_76 N) (L:=L_76) (N:=N) (body:=z1bk) (K:=(z5j (.v .bool) 0)) (z1mv N) Tryd.func6 (by kernel_rfl) (by decide) (fun _ hb=>TabOk.nil) (fun x y h=>by rw[z19e];exact h) (z1t (s:=(.v .bool)) (m:=0))
def zny:Code:=(Tryd.f4.body).getD .skip
def L_78:List (List Nat×List Nat):=[([0],[0]),([0,0,1],[13,0]),([1,0,1],[0]),([0,0,1,0,1],[2]),([1,0,1,0,1],[2]),([0,1,1],[3,4]),([0,1,1,1],[4,6,5,3]),([0,0,1,1,1,1],[31,5,3]),([1,0,1,1,1,1],[5,3]),(PQ86,[2]),([1,0,1,0,1,1,1,1],[2]),([0,1,1,1,1,1],[7,8,3,5]),(z107,[8,7,3,9,5,10]),(z17w,[2]),(z17v,[2])]
def z1oj (N:Nat):Env:=z24 tys glob [(6,zah N),(7,zar N),(8,zcg N),(9,zb7 N)] [] [] [] false [] []
theorem z1mu (N:Nat):EnvOk Tryd.prog (z1oj N):=zg mixed z12 (FnsOk.cons (zhp N) (FnsOk.cons (zg8 N) (FnsOk.cons (zhv N) (FnsOk.cons (zcj N) (FnsOk.nil))))) (ItsOk.nil)
def z4d (N:Nat)(n:DT2)(f:(Int×(Int×Unit)))(t:(List UInt8))(is_:Bool)(k0:Bool->Option Bool):Option Bool :=
 cond (f.1 != (0:Int))
 (k0 true)
 (k0 (!is_))
def z1k2 (N:Nat)(x:z1e z1cw)(K:Ex->List A->Option Bool):Option Bool :=
 z4d N x.1 x.2.1 x.2.2.1 x.2.2.2.1 (fun a2=>(K .normal (mkS [(3,.box TT1),(1,.v .str),(25,.v .bool)] 30 (x.1,x.2.2.1,a2,()))))
def z1ho (N:Nat):Hd Bool:=fun st K=>(unS z1cw 55 (restr [4,6,5,3] 0 st)).bind fun x=>z1k2 N x K
def t2_78 (N:Nat):Tab Bool:=[]
theorem z1eo {N:Nat}{c:Ctx}(hb:Base Tryd.prog (z1oj N) c):zw Tryd.prog c (zd zny [0,0,1,1,1,1]) (z1ho N) :=
 zy (s:=z1cw) (m:=55) (g:=z1k2 N) [4,6,5,3] (zf hb N (t2_78 N) L_78 zny TabOk.nil [0,0,1,1,1,1] _ rfl) (fun x K=>by kernel_rfl)
def z4e (N:Nat)(n:DT2)(f:(Int×(Int×Unit)))(t:(List UInt8))(is_:Bool)(k0:Bool->Option Bool)(k1:Option Bool):Option Bool :=
 z4d N n f t is_
 (fun x31=>cond x31
 ((z46 N).bind fun y =>
 k0 y)
 (k1))
def z1km (N:Nat)(x:z1e z1cw)(K:Ex->List A->Option Bool):Option Bool :=
 z4e N x.1 x.2.1 x.2.2.1 x.2.2.2.1 (fun a0=>(K .ret (mkS [(2,.v .bool)] 59 (a0,())))) (K .normal (mkS [(3,.box TT1),(1,.v .str)] 56 (x.1,x.2.2.1,())))
def z1i8 (N:Nat):Hd Bool:=fun st K=>(unS z1cw 55 (restr [4,6,5,3] 0 st)).bind fun x=>z1km N x K
def t1_78 (N:Nat):Tab Bool:=[([0,0,1,1,1,1],z1ho N)]
theorem z1f8 {N:Nat}{c:Ctx}(hb:Base Tryd.prog (z1oj N) c):zw Tryd.prog c (zd zny [0,1,1,1,1]) (z1i8 N) :=
 zy (s:=z1cw) (m:=55) (g:=z1km N) [4,6,5,3] (zf hb N (t1_78 N) L_78 zny (TabOk.cons (z1eo hb) TabOk.nil) [0,1,1,1,1] _ rfl) (fun x K=>by kernel_rfl)
def z23 (N:Nat)(s:(List UInt8)):Option Bool :=
 cond (decide ((200:Int)<(((List.length s):Nat):Int)))
 ((z46 N).bind fun y =>
 some y)
 ((z65 N s).bind fun y1 =>
 (z5i N y1.1).bind fun y2 =>
 z4e N y1.1 y1.2.1 y2.1 y2.2.1
 (fun x2=>some x2)
 ((z65 N y2.1).bind fun y3 =>
 (z5i N y3.1).bind fun y4 =>
 cond (eqD (T.pair (T.int IntKind.i64) (T.pair (T.int IntKind.i64) T.unit)) y3.2.1 ((0:Int),((0:Int),())))
 ((z2o N y3.1 y1.1).bind fun y5 =>
 cond y5
 (cond (y4.1 == y2.1)
 (cond y4.2.1
 ((z46 N).bind fun y6 =>
 some y6)
 (some false))
 (some false))
 (some false))
 (some false)))
def t_78 (N:Nat):Tab Bool:=[([0,1,1,1,1],z1i8 N)]
theorem z19d (N:Nat)(x:z1e [(0,.v .str)]):z91 (z1oj N) N (t_78 N) L_78 Tryd.f4 (mkS [(0,.v .str)] 0 x) (z5j (.v .bool) 1)=z23 N x.1:=by kernel_rfl
def zbl (N:Nat):List A->Res:=z1a [(0,.v .str)] (fun x=>z23 N x.1) (zb8 (.v .bool) 1)
theorem zck (N:Nat):Contract Tryd.prog glob 4 (zbl N) :=
 Contract.of (E:=z1oj N) (H:=t_78 N) (L:=L_78) (N:=N) (body:=zny) (K:=(z5j (.v .bool) 1)) (z1mu N) Tryd.func4 (by kernel_rfl) (by decide) (fun _ hb=>(TabOk.cons (z1f8 hb) TabOk.nil)) (fun x y h=>by rw[z19d];exact h) (z1t (s:=(.v .bool)) (m:=1))
end
end Go.Proofs.YthgcpalmjcomlaaDoorLg
set_option linter.all false
set_option maxRecDepth 100000
namespace Go.Proofs.YthgcpalmjcomlaaDoorLg
noncomputable section
open Go Go.Lift Go.Proofs.YthgcpalmjcomlaaDoorPx
mutual
def z1z:Tree->Nat
 | .mk _ _ ks _ _=>1+z2k ks
def z2k:List Tree->Nat
 | []=>0
 | x::xs=>z1z x+z2k xs
end
mutual
def zoe:Tree->Tree->Bool
 | .mk k st ks lo hi,.mk k' st' ks' lo' hi'=>k == k' && (st == st' && (lo == lo' && (hi == hi' && (ks.length == ks'.length && zof ks ks'))))
def zof:List Tree->List Tree->Bool
 | x::xs,y::ys=>zoe x y && zof xs ys
 | _,_=>true
end
def z2c (x:Tree):Int:=(unN x).1
def zl2 (lo hi:Int):Bool:=decide (0<=lo/\lo<=16/\(hi=-1\/(1<=hi/\lo<=hi/\hi<=16)))
def shT (k:Int)(st:List Int)(ks:List Tree)(lo hi:Int):Bool :=
 if k=1 then ks.length == 0 && (lo == 0 && hi == 0)
 else if k=2 then st == [0,0,0,0] && (lo == 0 && (hi == 0 && (ks.length != 1 && !(ks.any fun x=>z2c x == 2))))
 else if k=3 then st == [0,0,0,0] && (lo == 0 && (hi == 0 && (decide (2<=ks.length) && !(ks.any fun x=>z2c x == 3))))
 else if k=4 then st == [0,0,0,0] && (ks.length == 1 && zl2 lo hi)
 else false
mutual
def zb2:Tree->Bool
 | .mk k st ks lo hi=>shT k st ks lo hi && zmp ks
def zmp:List Tree->Bool
 | []=>true
 | x::xs=>zb2 x && zmp xs
end
theorem zkh:∀ x:Tree,0<z1z x
 | .mk ..=>by rw[z1z];omega
theorem zhc:∀ {ks:List Tree} {x:Tree},x∈ks->z1z x<=z2k ks
 | y::ks,x,h=>by
   rw[z2k];rcases List.mem_cons.1 h with rfl|h
   . omega
   . have:=zhc h;omega
theorem z6j:∀ ks:List Tree,ks.length<=z2k ks
 | []=>by simp
 | y::ks=>by have:=z6j ks;have:=zkh y;rw[z2k,List.length_cons];omega
theorem zyr (d:Tree){xs ys:List Tree}{i:Nat}(h:i<xs.length)(h':i<ys.length):zof (xs.drop i) (ys.drop i)=(zoe (xs.getD i d) (ys.getD i d) && zof (xs.drop (i+1)) (ys.drop (i+1))):=by
 rw[List.drop_eq_getElem_cons h,List.drop_eq_getElem_cons h',zof,List.getD_eq_getElem?_getD,List.getD_eq_getElem?_getD,List.getElem?_eq_getElem h,List.getElem?_eq_getElem h'];rfl
def dT:Tree:=.mk 0 [] [] 0 0
theorem zye {ks:List Tree}(h:z143 ks){i:Nat}(hi:i<ks.length):WfN (ks.getD i dT):=by
 rw[List.getD_eq_getElem?_getD,List.getElem?_eq_getElem hi];exact (zhm ks).1 h _ (List.getElem_mem hi)
theorem zra {ks:List Tree}{i:Nat}(hi:i<ks.length):ks.getD i dT∈ks:=by
 rw[List.getD_eq_getElem?_getD,List.getElem?_eq_getElem hi];exact List.getElem_mem hi
theorem z10v {xs ys:List Tree} (hl:xs.length=ys.length) (hm:xs.length<=maxLen) (self:NodT.den->NodT.den->Option Bool) (hself:∀ i,i<xs.length->self (unN (xs.getD i dT)) (unN (ys.getD i dT))=some (zoe (xs.getD i dT) (ys.getD i dT))) (n:Nat) (hn:xs.length<n)
 (step:Int->(Int->Option Bool)->Option Bool) (hs:∀ (i:Nat) (r:Int->Option Bool),step (i:Int) r=cond (decide ((i:Int)<(xs.length:Int))) (cond (inR (i:Int) xs.length) (cond (inR (i:Int) ys.length) ((self (unN (xs.getD (Int.toNat (i:Int)) dT)) (unN (ys.getD (Int.toNat (i:Int)) dT))).bind fun y=>cond (!y) (some false) (r (IntKind.wrap .i64 ((i:Int)+1)))) none) none) (some true)) :
 iter step n 0=some (zof xs ys):=by
 have key:=zgp (step:=step) (fun v=>∃ i:Nat,v=(i:Int)/\i<=xs.length) (fun v=>xs.length - v.toNat) (fun v=>some (zof (xs.drop v.toNat) (ys.drop v.toNat))) (by
  rintro v r ⟨i,rfl,hi⟩ hr;rw[hs];rcases Nat.lt_or_ge i xs.length with h|h
  . rw[z2a (decide_eq_true (by omega)),z2a (zcs h),z2a (zcs (by omega)),Int.toNat_natCast,hself i h,Option.bind_some,zyr dT h (by omega)];cases hc:zoe (xs.getD i dT) (ys.getD i dT) with
    | false=>rfl
    | true =>
      simp only[Bool.not_true,cond_false,Bool.true_and];have hw:IntKind.wrap .i64 ((i:Int)+1)=((i+1:Nat):Int):=by
       rw[z5q (by unfold I64;unfold maxLen at hm;omega)];omega
      rw[hw,hr _ ⟨i+1,rfl,by omega⟩ (by simp only[Int.toNat_natCast];omega),Int.toNat_natCast]
  . rw[z6u (decide_eq_false (by omega)),Int.toNat_natCast,List.drop_eq_nil_of_le h];rfl)
 have:=key n 0 ⟨0,rfl,by omega⟩ (by simp;omega);simpa using this
theorem z10t {N:Nat}{f:Nat->NodT.den->NodT.den->Option Bool}{ks:List Tree}(hN:z2k ks<N)(hw:z143 ks)
 (ih:∀ a b:Tree,z1z a<N->WfN a->f N (unN a) (unN b)=some (zoe a b)) (ys:List Tree) (i:Nat) (hi:i<ks.length) :
 f N (unN (ks.getD i dT)) (unN (ys.getD i dT))=some (zoe (ks.getD i dT) (ys.getD i dT)) :=
 ih _ _ (Nat.lt_of_le_of_lt (zhc (zra hi)) hN) (zye hw hi)
theorem eqD4 (x y:List Int):eqD (T.arr 4 (T.int .u64)) x y=(x == y):=by
 rw[z1bc (t:=.arr 4 (.int .u64)) rfl,Bool.eq_iff_iff,decide_eq_true_eq,beq_iff_eq]
theorem zpd:∀ (N:Nat) (a b:Tree),z1z a<N->WfN a->z2o N (unN a) (unN b)=some (zoe a b)
 | 0,_,_,h,_=>absurd h (Nat.not_lt_zero _)
 | N+1,.mk k st ks lo hi,.mk k' st' ks' lo' hi',h,hw=>by
   rw[z1z] at h;rw[WfN] at hw;have hlen:=z6j ks;show z6t (N+1) (z2o N) _ _=_;rw[zoe];unfold z6t z90 z8z zci;dsimp only[unN];rw[eqD4];cases h1:k == k'<;>simp only[bne,h1,Bool.not_false,Bool.not_true,cond_true,cond_false,Bool.false_and,Bool.true_and]
   cases h2:st == st'<;>simp only[Bool.not_false,Bool.not_true,cond_true,cond_false,Bool.false_and,Bool.true_and]
   cases h3:lo == lo'<;>simp only[Bool.not_false,Bool.not_true,cond_true,cond_false,Bool.false_and,Bool.true_and]
   cases h4:hi == hi'<;>simp only[Bool.not_false,Bool.not_true,cond_true,cond_false,Bool.false_and,Bool.true_and]
   have h5:((ks.length:Int) == (ks'.length:Int))=(ks.length == ks'.length):=by rw[Bool.eq_iff_iff,beq_iff_eq,beq_iff_eq];omega
   rw[h5];cases h6:ks.length == ks'.length<;>simp only[Bool.not_false,Bool.not_true,cond_true,cond_false,Bool.false_and,Bool.true_and]
   exact z10v (by simpa using h6) hw.2.2.1.1 (z2o N) (fun i hi=>z10t (by omega) hw.2.2.1.2 (fun a b=>zpd N a b) ks' i hi) (N+1) (by omega) _ (fun i r=>rfl)
theorem z171 {i len:Nat}(h:i<len)(hm:len<=maxLen):IntKind.wrap .i64 ((i:Int)+1)=((i+1:Nat):Int):=by
 rw[z5q (by unfold I64;unfold maxLen at hm;omega)];omega
theorem zuj (N:Nat)(lo hi:Int):zc8 N lo hi=some (zl2 lo hi):=by
 unfold zc8 zdf zde zl2;simp only[Bool.cond_eq_ite,decide_eq_true_eq,beq_iff_eq,if_true,Bool.false_eq_true,if_false]
 repeat' split
 all_goals first
  | (simp only[Option.some.injEq];rw[eq_comm];first|(apply decide_eq_true;omega)|(apply decide_eq_false;omega)|(rw[Bool.eq_iff_iff,decide_eq_true_eq,decide_eq_true_eq];omega))
  | omega
theorem zsy {ks:List Tree} (hm:ks.length<=maxLen) (f:Tree->Option Bool) (e:Bool) (step:Int->(Int->Option Bool)->Option Bool)
 (hs:∀ (i:Nat) (r:Int->Option Bool),i<=ks.length->step (i:Int) r=cond (decide ((i:Int)<(ks.length:Int))) (match f (ks.getD i dT) with
  | some b=>some b
  | none=>r (IntKind.wrap .i64 ((i:Int)+1))) (some e)) (n:Nat) (hn:ks.length<n):iter step n 0=some ((ks.findSome? f).getD e):=by
 have key:=zgp (step:=step) (fun v=>∃ i:Nat,v=(i:Int)/\i<=ks.length) (fun v=>ks.length - v.toNat) (fun v=>some (((ks.drop v.toNat).findSome? f).getD e)) (by
  rintro v r ⟨i,rfl,hi⟩ hr;rw[hs i r hi];rcases Nat.lt_or_ge i ks.length with h|h
  . have eg:ks.getD i dT=ks[i]:=by rw[List.getD_eq_getElem?_getD,List.getElem?_eq_getElem h];rfl
    rw[z2a (decide_eq_true (by omega)),Int.toNat_natCast,List.drop_eq_getElem_cons h,List.findSome?_cons,eg];cases hf:f ks[i] with
    | some b=>rfl
    | none =>
      dsimp only;rw[z171 h hm,hr _ ⟨i+1,rfl,by omega⟩ (by simp only[Int.toNat_natCast];omega),Int.toNat_natCast]
  . rw[z6u (decide_eq_false (by omega)),Int.toNat_natCast,List.drop_eq_nil_of_le h];rfl)
 have:=key n 0 ⟨0,rfl,by omega⟩ (by simp;omega);simpa using this
theorem zlg (p:Tree->Bool):∀ ks:List Tree,(ks.findSome? fun x=>cond (p x) (some true) none).getD false=ks.any p
 | []=>rfl
 | x::ks=>by
   rw[List.findSome?_cons,List.any_cons];cases hp:p x with
   | true=>rfl
   | false=>simpa using zlg p ks
theorem zhy:∀ ks:List Tree,(ks.findSome? fun x=>cond (zb2 x) none (some false)).getD true=zmp ks
 | []=>by rw[zmp];rfl
 | x::ks=>by
   rw[List.findSome?_cons,zmp];cases hp:zb2 x with
   | true=>simpa using zhy ks
   | false=>rfl
theorem zry (N:Nat)(k:Int)(st:List Int)(ks:List Tree)(lo hi kind:Int)(hm:ks.length<=maxLen)(hN:ks.length<N):z94 N (k,st,ks,lo,hi,()) kind=some (ks.any fun x=>z2c x == kind):=by
 unfold z94 zgb;rw[<- zlg];refine zsy hm (fun x=>cond (z2c x == kind) (some true) none) false _ (fun i r hi=>?_) N hN;unfold zc7;dsimp only;rcases Nat.lt_or_ge i ks.length with h|h
 . rw[z2a (decide_eq_true (by omega)),z2a (decide_eq_true (by omega)),z2a (zcs h),Int.toNat_natCast];change cond (z2c (ks.getD i dT) == kind) _ _=_;cases z2c (ks.getD i dT) == kind<;>rfl
 . rw[z6u (decide_eq_false (by omega)),z6u (decide_eq_false (by omega))]
theorem z10r (N:Nat)(k:Int)(st:List Int)(ks:List Tree)(lo hi:Int)(hm:ks.length<=maxLen)(hN:ks.length<N):zae N (k,st,ks,lo,hi,())=some (shT k st ks lo hi):=by
 unfold zae zc9;dsimp only;rw[zry N k st ks lo hi 2 hm hN,zry N k st ks lo hi 3 hm hN,zuj,eqD4];unfold shT;simp only[Option.bind_some];have e0:((ks.length:Int) == 0)=(ks.length == 0):=by rw[Bool.eq_iff_iff,beq_iff_eq,beq_iff_eq];omega
 have e1:((ks.length:Int) == 1)=(ks.length == 1):=by rw[Bool.eq_iff_iff,beq_iff_eq,beq_iff_eq];omega
 have e2:decide ((2:Int)<=(ks.length:Int))=decide (2<=ks.length):=by rw[Bool.eq_iff_iff,decide_eq_true_eq,decide_eq_true_eq];omega
 simp only[bne,e0,e1,e2];by_cases h1:k=1
 . subst h1;cases lo == 0<;>cases hi == 0<;>cases ks.length == 0<;>rfl
 rw[if_neg h1];by_cases h2:k=2
 . subst h2;cases lo == 0<;>cases hi == 0<;>cases ks.length == 1<;>cases st == [0,0,0,0]<;>rfl
 rw[if_neg h2];by_cases h3:k=3
 . subst h3;cases lo == 0<;>cases hi == 0<;>cases decide (2<=ks.length)<;>cases st == [0,0,0,0]<;>rfl
 rw[if_neg h3];have f1:(k == 1)=false:=by simpa using h1
 have f2:(k == 2)=false:=by simpa using h2
 have f3:(k == 3)=false:=by simpa using h3
 by_cases h4:k=4
 . subst h4;cases lo == 0<;>cases hi == 0<;>cases ks.length == 1<;>cases st == [0,0,0,0]<;>rfl
 have f4:(k == 4)=false:=by simpa using h4
 rw[if_neg h4,f1,f2,f3,f4];cases lo == 0<;>rfl
theorem zmx:∀ (N:Nat) (a:Tree),z1z a<N->WfN a->z64 N (unN a)=some (zb2 a)
 | 0,_,h,_=>absurd h (Nat.not_lt_zero _)
 | N + 1,.mk k st ks lo hi,h,hw=>by
   rw[z1z] at h;rw[WfN] at hw;have hlen:=z6j ks;show zbk (N+1) (z64 N) (k,st,ks,lo,hi,())=_;rw[zb2];unfold zbk zht;rw[z10r (N+1) k st ks lo hi hw.2.2.1.1 (by omega),Option.bind_some];cases shT k st ks lo hi with
   | false=>rfl
   | true =>
     simp only[Bool.not_true,cond_false,Bool.true_and];rw[<- zhy];refine zsy hw.2.2.1.1 (fun x=>cond (zb2 x) none (some false)) true _ (fun i r hi=>?_) (N+1) (by omega);unfold zdi;dsimp only;rcases Nat.lt_or_ge i ks.length with h'|h'
     . rw[z2a (decide_eq_true (by omega)),z2a (decide_eq_true (by omega)),z2a (zcs h'),Int.toNat_natCast];have e:z64 N (unN (ks.getD i (Tree.mk (0:Int) ([]:List Int) ([]:List Tree) (0:Int) (0:Int))))=some (zb2 (ks.getD i dT)):=zmx N (ks.getD i dT) (by have:=zhc (zra h');omega) (zye hw.2.2.1.2 h');rw[e,Option.bind_some];cases zb2 (ks.getD i dT)<;>rfl
     . rw[z6u (decide_eq_false (by omega)),z6u (decide_eq_false (by omega))]
end
end Go.Proofs.YthgcpalmjcomlaaDoorLg
set_option linter.all false
set_option maxRecDepth 100000
namespace Go.Proofs.YthgcpalmjcomlaaDoorLg
noncomputable section
open Go Go.Lift Go.Proofs.YthgcpalmjcomlaaDoorPx
def zzd (x:Tree):List Tree:=(unN x).2.2.1
def zjb (k:Int)(x:Tree):List Tree:=cond (z2c x == k) (zzd x) [x]
def zal (k:Int)(ps:List Tree):List Tree:=ps.flatMap (zjb k)
def zcr (k:Int)(ps:List Tree):Tree:=match zal k ps with
 | [x]=>x
 | kids=>.mk k [0,0,0,0] kids 0 0
theorem zpz (k:Int){ps:List Tree}{i:Nat}(h:i<ps.length):zal k (ps.drop i)=zjb k (ps.getD i dT)++zal k (ps.drop (i+1)):=by
 rw[List.drop_eq_getElem_cons h,List.getD_eq_getElem?_getD,List.getElem?_eq_getElem h];rfl
theorem zso (l:List Tree):(l.map unN).map foN=l:=by
 rw[List.map_map]
 conv=>rhs;rw[<- List.map_id l]
 exact List.map_congr_left fun x _=>z12r x
theorem z1b4 (N:Nat) (k:Int) (ps:List Tree) (hm:ps.length<=maxLen) (hN:ps.length<N) (hb:(zal k ps).length*80<=70368744177664):z7g N k ps=some (unN (zcr k ps)):=by
 unfold z7g zj9;have key:∀ (x4:NodT.den) (k0:List NodT.den->Option NodT.den),iter (fun (v:(List NodT.den×Int)) r=>z9m N k x4 ps (ps.length:Int) v.1 v.2 (fun kids x10=>(r (kids,x10))) k0) N ([],0)=k0 ((zal k ps).map unN):=by
  intro x4 k0;have:=zgp (step:=fun (v:(List NodT.den×Int)) r=>z9m N k x4 ps (ps.length:Int) v.1 v.2 (fun kids x10=>(r (kids,x10))) k0)
   (fun v=>∃ i:Nat,v.2=(i:Int)/\i<=ps.length/\(v.1.length+(zal k (ps.drop i)).length)*80<=70368744177664) (fun v=>ps.length - v.2.toNat) (fun v=>k0 (v.1++(zal k (ps.drop v.2.toNat)).map unN)) (by
   rintro⟨acc,v⟩ r ⟨i,rfl,hi,hbi⟩ hr;unfold z9m;dsimp only at hbi ⊢;rcases Nat.lt_or_ge i ps.length with h|h
   . have ht:decide ((i:Int)<(ps.length:Int))=true:=decide_eq_true (by omega);rw[z2a ht,z2a (zcs h),Int.toNat_natCast,z171 h hm];rw[zpz k h,List.length_append] at hbi;rw[zpz k h,List.map_append,<- List.append_assoc];change cond (z2c (ps.getD i dT) == k) (cond (decide (((acc.length+(List.map unN (zzd (ps.getD i dT))).length)*80)<=70368744177664)) (r (acc++List.map unN (zzd (ps.getD i dT)),((i+1:Nat):Int))) none) (cond (decide (((acc.length+1)*80)<=70368744177664)) (r (acc++[unN (ps.getD i dT)],((i+1:Nat):Int))) none)=_;unfold zjb at hbi ⊢;cases hk:z2c (ps.getD i dT) == k with
     | true =>
       rw[hk] at hbi;simp only[cond_true] at hbi ⊢;rw[z2a (decide_eq_true (by rw[List.length_map];omega)),hr _ ⟨i+1,rfl,by omega,by simp only[List.length_append,List.length_map];omega⟩ (by simp only[Int.toNat_natCast];omega)];simp only[Int.toNat_natCast]
     | false =>
       rw[hk] at hbi;simp only[cond_false,List.length_singleton] at hbi ⊢;rw[z2a (decide_eq_true (by omega)),hr _ ⟨i+1,rfl,by omega,by simp only[List.length_append,List.length_singleton];omega⟩ (by simp only[Int.toNat_natCast];omega)];simp only[Int.toNat_natCast,List.map_cons,List.map_nil]
   . have ht:decide ((i:Int)<(ps.length:Int))=false:=decide_eq_false (by omega);rw[z6u ht,Int.toNat_natCast,List.drop_eq_nil_of_le h];simp[zal])
  have:=this N ([],0) ⟨0,rfl,by omega,by simpa using hb⟩ (by simp;omega);simpa using this
 refine (key _ _).trans ?_;unfold zcr;cases hf:zal k ps with
 | nil=>rfl
 | cons x xs =>
   cases xs with
   | nil=>rfl
   | cons y ys =>
     have h1:(((List.map unN (x::y::ys)).length:Int) == 1)=false:=by
      rw[beq_eq_false_iff_ne];simp only[List.length_map,List.length_cons];omega
     rw[z6u h1,zso];rfl
end
end Go.Proofs.YthgcpalmjcomlaaDoorLg
