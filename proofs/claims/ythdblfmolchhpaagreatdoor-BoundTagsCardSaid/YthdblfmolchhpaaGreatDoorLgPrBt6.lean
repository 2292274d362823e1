import Derived.Test.YthdblfmolchhpaaGreatDoorLgPrBt4
import Derived.Test.YthdblfmolchhpaaGreatDoorLgPrBt5
import Derived.WalkKit
import Derived.Tactics
import Derived.Tactics2
import Derived.Defers
import Derived.Lib.Hide
import Derived.Below
import Derived.WalkSmall
import Derived.LoopN
import Derived.Deep.Cut
import Derived.KernelRfl
import Derived.Laws.Rows
import Derived.Test.YthdblfmolchhpaaGreatDoorChecked
import Derived.Test.YthdblfmolchhpaaGreatDoorLgW
set_option linter.all false
set_option maxRecDepth 100000
namespace Go.Proofs.YthdblfmolchhpaaGreatDoorLg
noncomputable section
open Go Go.Lift
abbrev Tok31:T:=.pair .str (.pair (.sl (.pair .str (.pair .str .unit))) (.pair .str .unit))
abbrev Bun31:T:=.pair Tok31 (.pair (.sl Tok31) .unit)
theorem zrd {S:Hp}{t:Tok31.den}{v:Value}(h:VR S Tok31 t v):∃ p n c,v=.agg #[.string ⟨⟨t.1⟩⟩,.slice p n c,.string ⟨⟨t.2.2.1⟩⟩]:=by
 have h':∃ cs,v=.agg cs/\Rd S Tok31 t cs.toList:=h;obtain⟨cs,rfl,c1,c2,hc,k1,c3,c4,hc',⟨p,cap,k2,_⟩,c5,c6,hc'',k3,k4⟩:=h';have e1:c1=[.string ⟨⟨t.1⟩⟩]:=k1;have e3:c5=[.string ⟨⟨t.2.2.1⟩⟩]:=k3;have e4:c6=[]:=k4;refine⟨p,t.2.1.length,cap,?_⟩;congr 1;apply Array.toList_inj.1;rw[hc,hc',hc'',e1,k2,e3,e4];rfl
theorem zxn {S:Hp}:∀ (ts:List Tok31.den) (cs:List Value),All (Rd S Tok31) ts cs->∀ i,i<ts.length->∃ p n c,Rd S Tok31 (ts.getD i ([],([],([],())))) [.string ⟨⟨(ts.getD i ([],([],([],())))).1⟩⟩,.slice p n c,.string ⟨⟨(ts.getD i ([],([],([],())))).2.2.1⟩⟩] ∧
 cs[i*3]?=some (.string ⟨⟨(ts.getD i ([],([],([],())))).1⟩⟩)/\cs[i*3+1]?=some (.slice p n c)/\cs[i*3+2]?=some (.string ⟨⟨(ts.getD i ([],([],([],())))).2.2.1⟩⟩)
 | [],_,_,i,hi=>by cases hi
 | t :: ts,cs,h,i,hi=>by
   obtain⟨c1,c2,rfl,h1,h2⟩:=h;obtain⟨p,n,c,e⟩:=zrd (S:=S) (t:=t) (v:=.agg c1.toArray) ⟨_,rfl,by simpa using h1⟩;have e':c1=[.string ⟨⟨t.1⟩⟩,.slice p n c,.string ⟨⟨t.2.2.1⟩⟩]:=by
    have:=congrArg Array.toList (Value.agg.inj e);simpa using this
   subst e';cases i with
   | zero=>exact⟨p,n,c,by simpa using h1,by simp,by simp,by simp⟩
   | succ i =>
     obtain⟨p',n',c',g1,g2,g3,g4⟩:=zxn ts c2 h2 i (by simpa using hi);refine⟨p',n',c',by simpa using g1,?_,?_,?_⟩
     . rw[show (i+1)*3=i*3+1+1+1 by omega];simpa using g2
     . rw[show (i+1)*3+1=i*3+1+1+1+1 by omega];simpa using g3
     . rw[show (i+1)*3+2=i*3+2+1+1+1 by omega];simpa using g4
theorem zyk {S:Hp} {ts:List Tok31.den} {v:Value} (h:VR S (.sl Tok31) ts v):∃ a cap,v=.slice a ts.length cap/\(0<ts.length->∃ b off,a=some ⟨b,off,none⟩/\∀ i,i<ts.length->∃ p n c,VR S Tok31 (ts.getD i ([],([],([],())))) (.agg #[.string ⟨⟨(ts.getD i ([],([],([],())))).1⟩⟩,.slice p n c,.string ⟨⟨(ts.getD i ([],([],([],())))).2.2.1⟩⟩]) ∧
 ∀ w:World,Lift.Sub S (hp w)->w.cell? ⟨b,off+i*3,none⟩=some (.string ⟨⟨(ts.getD i ([],([],([],())))).1⟩⟩)/\w.cell? ⟨b,off+i*3+1,none⟩=some (.slice p n c)/\w.cell? ⟨b,off+i*3+2,none⟩=some (.string ⟨⟨(ts.getD i ([],([],([],())))).2.2.1⟩⟩)):=by
 have h':Rd S (.sl Tok31) ts [v]:=h;obtain⟨a,cap,e,hcap,h1⟩:=h';refine⟨a,cap,by simpa using e,fun hn=>?_⟩;rcases h1 with rfl|⟨b,off,c1,rfl,hl,ha⟩
 . cases hn
 . refine⟨b,off,rfl,fun i hi=>?_⟩;obtain⟨p,n,c,g1,g2,g3,g4⟩:=zxn ts c1 ha i hi;refine⟨p,n,c,⟨_,rfl,by simpa using g1⟩,fun w hw=>?_⟩;have at':∀ j u,c1[j]?=some u->w.cell? ⟨b,off+j,none⟩=some u:=fun j u hu=>by
    obtain⟨all,E,fr,c0,c2,q1,q2,q3⟩:=hl;have q4:=hw _ _ q1;have hb:w.heap[b]?=some (.cells all E fr):=q4;have:all[off+j]?=some u:=by
     rw[<- Array.getElem?_toList,q2,List.getElem?_append_right (by omega),q3,show off+j - off=j by omega,List.getElem?_append_left (List.getElem?_eq_some_iff.1 hu).1];exact hu
    simp[World.cell?,hb,this]
   exact⟨at' _ _ g2,by rw[Nat.add_assoc];exact at' _ _ g3,by rw[Nat.add_assoc];exact at' _ _ g4⟩
theorem z12q {S:Hp}{t:Tok31.den}{ts:List Tok31.den}{v:Value}(h:VR S Bun31 (t,(ts,())) v):∃ p n c a cap,v=.agg #[.string ⟨⟨t.1⟩⟩,.slice p n c,.string ⟨⟨t.2.2.1⟩⟩,.slice a ts.length cap]/\VR S Tok31 t (.agg #[.string ⟨⟨t.1⟩⟩,.slice p n c,.string ⟨⟨t.2.2.1⟩⟩])/\VR S (.sl Tok31) ts (.slice a ts.length cap):=by
 have h':∃ cs,v=.agg cs/\Rd S Bun31 (t,(ts,())) cs.toList:=h;obtain⟨cs,rfl,c1,c2,hc,k1,c3,c4,hc',k2,k3⟩:=h';obtain⟨p,n,c,e1⟩:=zrd (S:=S) (t:=t) (v:=.agg c1.toArray) ⟨_,rfl,by simpa using k1⟩;have e1':c1=[.string ⟨⟨t.1⟩⟩,.slice p n c,.string ⟨⟨t.2.2.1⟩⟩]:=by
  have:=congrArg Array.toList (Value.agg.inj e1);simpa using this
 subst e1';have k2':=k2;obtain⟨a,cap,e3,hcap,hcc⟩:=k2';have e4:c4=[]:=k3;refine⟨p,n,c,a,cap,?_,⟨_,rfl,by simpa using k1⟩,?_⟩
 . congr 1;apply Array.toList_inj.1;rw[hc,hc',e3,e4];rfl
 . show Rd S (.sl Tok31) ts [.slice a ts.length cap];exact⟨a,cap,rfl,hcap,hcc⟩
theorem zj5 {w w':World}{S:Hp}{args:List A}{vals:List Value}{r:A}{outs:List A}{e:Ending}(h:Lift.Ends w S args vals (fun _=>[]) r outs e w') :
 ∃ v o S',e=.returned v/\ARel (hp w') S' (fun _=>undef) r v o/\w.grownBy w' none:=by
 obtain⟨v,S',o,ob',rfl,hwf,hSS,hSw,hnew,⟨hr,_⟩,_⟩:=h;exact⟨v,o,S',rfl,hr,hwf.os,hwf.tape,hwf.output,hwf.size,fun k hk _=>hwf.same k hk (by rintro⟨i,hi⟩;cases hi)⟩
theorem zel {w:World}{S:Hp}{a:A}{v:Value}(h:ARel (hp w) S (fun _=>undef) a v [])(hr:a.refs=[]):ArgsRel (hp w) S [a] [v] (fun _=>[]):=by
 refine⟨rfl,fun i y hy=>?_,fun _ _=>rfl,(fun i j b hb=>by cases hb),fun _=>.nil,(fun i b hb=>by cases hb)⟩;cases i with
 | zero=>simp at hy;subst hy;exact⟨⟨v,rfl,h⟩,hr⟩
 | succ i=>simp at hy
theorem zvz {w:World}{S:Hp}:ArgsRel (hp w) S [] [] (fun _=>[]):=⟨rfl,(fun i y hy=>by simp at hy),fun _ _=>rfl,(fun i j b hb=>by cases hb),fun _=>.nil,(fun i b hb=>by cases hb)⟩
theorem z11b (w:World):Lift.Sub z13f (hp w):=fun b o h=>by cases h
theorem z117 (N:Nat){w:World}{n:Int}{s:List UInt8}(hy:z1z N n=some s) :
 Calls Go.Proofs.Tryz.prog 28 #[.int .u64 n] w fun r w'=>r=.returned (.string ⟨⟨s⟩⟩)/\w.grownBy w' none:=by
 refine ((z95 N).2 w z13f _ _ _ (zel (a:=.v (.int .u64) n) ⟨VR.int,rfl⟩ rfl) (z11b w) (z8o _) _ hy).mono ?_;intro e w' he;obtain⟨v,o,S',rfl,hr,hc⟩:=zj5 he;exact⟨by rw[VR.str_inv hr.1],hc⟩
theorem zxu (N:Nat){w:World}{t s:List UInt8}(hy:z1k N t=some s) :
 Calls Go.Proofs.Tryz.prog 43 #[.string ⟨⟨t⟩⟩] w fun r w'=>r=.returned (.string ⟨⟨s⟩⟩)/\w.grownBy w' none:=by
 refine ((z7n N).2 w z13f _ _ _ (zel (a:=.v .str t) ⟨VR.str,rfl⟩ rfl) (z11b w) (z8o _) _ hy).mono ?_;intro e w' he;obtain⟨v,o,S',rfl,hr,hc⟩:=zj5 he;exact⟨by rw[VR.str_inv hr.1],hc⟩
theorem zzx {h S:Hp}{x:List UInt8}{c:Int}{v:Value}{o:List Nat}(hr:ARel h S (fun _=>undef) (.tup [⟨.str,x⟩,⟨.int .i64,c⟩]) v o):v=.tuple #[.string ⟨⟨x⟩⟩,.int .i64 c]:=by
 obtain⟨_,vs,rfl,ht⟩:=hr;generalize hvs:vs.toList=l at ht;cases ht with
 | cons h1 ht =>
 cases ht with
 | cons h2 ht =>
 cases ht;congr 1;apply Array.toList_inj.1;rw[hvs,VR.str_inv h1,VR.int_inv h2]
theorem zzy (N:Nat){w:World}{S:Hp}(hS:Lift.Sub S (hp w))(hg:GlobOk glob S){t:Tok31.den}{v:Value}(hv:VR S Tok31 t v){x:List UInt8}{c:Int}(hy:z9x N t=some (x,(c,()))) :
 Calls Go.Proofs.Tryz.prog 44 #[v] w fun r w'=>r=.returned (.tuple #[.string ⟨⟨x⟩⟩,.int .i64 c])/\w.grownBy w' none:=by
 refine ((zrc N).2 w S _ _ _ (zel (a:=.v Tok31 t) ⟨hv,rfl⟩ rfl) hS hg _ hy).mono ?_;intro e w' he;obtain⟨v,o,S',rfl,hr,hc⟩:=zj5 he;exact⟨by rw[zzx hr],hc⟩
theorem z84 {w w':World}{S:Hp}{row:Option Nat}(hS:Lift.Sub S (hp w))(h:w.grownBy w' row)(hr:∀ k,row=some k->S k=none):Lift.Sub S (hp w'):=by
 intro k o hk;have h3:=hS k o hk;have hlt:k<w.heap.size:=(Array.getElem?_eq_some_iff.1 (show w.heap[k]?=some o from h3)).1;have:=h.block k hlt (fun e=>by rw[hr k e.symm] at hk;cases hk);simp only[hp] at h3 ⊢;rw[this];exact h3
theorem z5o {w w1 w2:World}{row:Option Nat}(h:w.grownBy w1 row)(g:w1.grownBy w2 none):w.grownBy w2 row :=
 ⟨g.os.trans h.os,g.tape.trans h.tape,g.output.trans h.output,Nat.le_trans h.size g.size,fun k hk hne=>(g.block k (Nat.lt_of_lt_of_le hk h.size) (by simp)).trans (h.block k hk hne)⟩
theorem z66 {w w1 w2:World}{row:Option Nat}(h:w.grownBy w1 none)(g:w1.grownBy w2 row):w.grownBy w2 row :=
 ⟨g.os.trans h.os,g.tape.trans h.tape,g.output.trans h.output,Nat.le_trans h.size g.size,fun k hk hne=>(g.block k (Nat.lt_of_lt_of_le hk h.size) hne).trans (h.block k hk (by simp))⟩
theorem z5b {w w1:World}{c:Nat}{row:Option Nat}(h:w.grownBy w1 row)(hr:row=none\/row=some c)(cap:Nat)(buf:Array Value)(cl:Bool)(s r:Nat)(tm:Bool):w.grownBy (w1.setChan c cap buf cl s r tm) (some c):=by
 refine⟨h.os,h.tape,h.output,by rw[Conc.size_setChan];exact h.size,fun k hk hne=>?_⟩;have hk':w1.heap[k]?=w.heap[k]?:=h.block k hk (by
  rcases hr with rfl|rfl
  . simp
  . exact hne)
 have hne':c≠k:=fun e=>hne (by rw[e])
 rw[<- hk'];simp only[World.setChan];rw[Array.getElem?_setIfInBounds_ne hne']
theorem zgi {w w1 w2:World}{row:Option Nat}(h:w.grownBy w1 row)(g:w1.grownBy w2 row):w.grownBy w2 row :=
 ⟨g.os.trans h.os,g.tape.trans h.tape,g.output.trans h.output,Nat.le_trans h.size g.size,fun k hk hne=>(g.block k (Nat.lt_of_lt_of_le hk h.size) hne).trans (h.block k hk hne)⟩
def ze9 (N:Nat)(t:Tok31.den):Option (Int×List UInt8):=(z9x N t).bind fun q=>if q.2.1=0 then (z1k N q.1).bind fun y=>some (0,y) else some (q.2.1,[])
set_option maxHeartbeats 1000000 in
theorem zf4 (N:Nat){w:World}{S:Hp}(hS:Lift.Sub S (hp w))(hg:GlobOk glob S){c cap s r:Nat}{buf:Array Value}{tm:Bool}(hc:w.heap[c]?=some (.chan cap buf false s r tm))(hroom:buf.size<cap)
 {t:Tok31.den} {p:Option Addr} {n k:Nat} (hv:VR S Tok31 t (.agg #[.string ⟨⟨t.1⟩⟩,.slice p n k,.string ⟨⟨t.2.2.1⟩⟩])) {e:Int} {y:List UInt8} (hy:ze9 N t=some (e,y)) :
 Calls Go.Proofs.Tryz.prog 27 #[.chan (some c),.agg #[.string ⟨⟨t.1⟩⟩,.slice p n k,.string ⟨⟨t.2.2.1⟩⟩]] w fun q w'=>q=.returned (.int .i64 e)/\w.grownBy w' (some c)/\(¬ e=0->w'.heap[c]?=some (.chan cap buf false s r tm))/\(e=0->w'.heap[c]?=some (.chan cap (buf.push (.string ⟨⟨y⟩⟩)) false (s+1) r tm)):=by
 obtain⟨⟨x,e0,⟨⟩⟩,hx,hy⟩:=Option.bind_eq_some_iff.1 hy;dsimp only at hy
 suffices HX:∀ R:Ending->World->Prop,Go.RowKit.Hid (∀ w',w.grownBy w' (some c)->(¬ e=0->w'.heap[c]?=some (.chan cap buf false s r tm))->(e=0->w'.heap[c]?=some (.chan cap (buf.push (.string ⟨⟨y⟩⟩)) false (s+1) r tm))->R (.returned (.int .i64 e)) w')->Calls Go.Proofs.Tryz.prog 27 #[.chan (some c),.agg #[.string ⟨⟨t.1⟩⟩,.slice p n k,.string ⟨⟨t.2.2.1⟩⟩]] w R from HX _ (Go.Lib.hid (fun w' a b d=>⟨rfl,a,b,d⟩))
 intro R HR;have hcl:c<w.heap.size:=(Array.getElem?_eq_some_iff.1 hc).1;have HC:=Go.Lib.hid hc;have hga:∀ (cs:Array Value) (E:Nat),w.grownBy (w.alloc (.cells cs E)) none:=fun cs E=>World.grownBy_alloc w _ none
 have HG:=Go.Lib.hid hga;have HT:=fun (cs:Array Value) (E:Nat)=>zzy N (w:=w.alloc (.cells cs E)) (z84 hS (hga cs E) (by simp)) hg hv hx
 have HY:=Go.Lib.hid hy;have HRm:=Go.Lib.hid hroom;clear hy hc hv hx hS hga hroom
 go_enter Go.Proofs.Tryz.func27,Go.Proofs.Tryz.ntmps27
 go_upto_region 4 with (go_at_call 44;refine (HT _ _).mono ?_;rintro q w1 ⟨rfl,hw1⟩;have HW:=Go.Lib.hid hw1;clear HT hw1)
 . rename_i hb;have he:=HY.out;rw[if_neg (bne_iff_ne.1 hb)] at he;cases he;have hw2:=z5o (HG.out _ _) HW.out;exact HR.out _ ⟨hw2.os,hw2.tape,hw2.output,hw2.size,fun k hk _=>hw2.block k hk (by simp)⟩ (fun _=>(hw2.block c hcl (by simp)).trans HC.out) (fun h=>absurd h (bne_iff_ne.1 hb))
 . rename_i hb K5 hK5;have he:=HY.out;have hz:e0=0:=by simpa using hb
   subst hz;rw[if_pos rfl] at he;obtain⟨y',hy',he⟩:=Option.bind_eq_some_iff.1 he;cases he;have HF:=Go.Lib.hid (zxu N (w:=w1) hy');clear hy' HY;refine z7f 3 (by decide) rfl (fun K hK=>?_);simp only[List.take_succ_cons,List.take_zero]
   go_wp2_with (go_at_call 43;refine HF.out.mono ?_;rintro q w2 ⟨rfl,hw2⟩;have HW2:=Go.Lib.hid hw2;clear HF hw2)
   have g1:w.grownBy w1 none:=z5o (HG.out _ _) HW.out;have g2:w.grownBy w2 none:=z5o g1 HW2.out;have hc2:w2.heap[c]?=some (.chan cap buf false s r tm):=(g2.block c hcl (by simp)).trans HC.out;have hc3:=Conc.heap_setChan w2 c cap (buf.push (.string ⟨⟨y⟩⟩)) false (s+1) r tm (Array.getElem?_eq_some_iff.1 hc2).1;refine RegWp.send (c:=c) (cap:=cap) (s:=s) (r:=r) (buf:=buf) (tm:=tm) (v:=.string ⟨⟨y⟩⟩) (rest:=[]) rfl rfl rfl rfl rfl hc2 HRm.out (RegWp.nil ?_);have g3:=z5b (c:=c) g2 (.inl rfl) cap (buf.push (.string ⟨⟨y⟩⟩)) false (s+1) r tm;generalize w2.setChan c cap (buf.push (.string ⟨⟨y⟩⟩)) false (s+1) r tm=w3 at g3 hc3 ⊢;have G3:=Go.Lib.hid g3;have H3:=Go.Lib.hid hc3;clear g1 g2 g3 hc2 hc3;refine hK5 _ _ ?_
   go_wp2
   exact HR.out _ G3.out (fun h=>absurd trivial h) (fun _=>H3.out)
def z90 (N:Nat):List Tok31.den->Option (Int×List (List UInt8))
 | []=>some (0,[])
 | t::ts=>(ze9 N t).bind fun q=>if q.1=0 then (z90 N ts).bind fun r=>some (r.1,q.2::r.2) else some (q.1,[])
def zu5 (N:Nat)(t:Tok31.den)(ts:List Tok31.den):Option (Int×List (List UInt8)) :=
 (ze9 N t).bind fun q=>if q.1=0 then (z1z N (ts.length:Int)).bind fun m=>(z90 N ts).bind fun r=>some (r.1,q.2::m::r.2) else some (q.1,[])
def zrm (s:List UInt8):Value:=.string ⟨⟨s⟩⟩
theorem zyf (N:Nat){ts:List Tok31.den}{k:Nat}(hk:k<ts.length){e:Int}{l:List (List UInt8)}(h:z90 N (ts.drop k)=some (e,l)) :
 ∃ e1 y,ze9 N (ts.getD k ([],([],([],()))))=some (e1,y)/\(¬ e1=0->e=e1)/\(e1=0->∃ l',z90 N (ts.drop (k+1))=some (e,l')/\l=y::l'):=by
 rw[List.drop_eq_getElem_cons hk,z90] at h;obtain⟨⟨e1,y⟩,h1,h2⟩:=Option.bind_eq_some_iff.1 h;refine⟨e1,y,by rw[List.getD_eq_getElem?_getD,List.getElem?_eq_getElem hk];exact h1,fun hn=>?_,fun hz=>?_⟩
 . dsimp only at h2;rw[if_neg hn] at h2;cases h2;rfl
 . dsimp only at h2;rw[if_pos hz] at h2;obtain⟨⟨e2,l2⟩,h3,h4⟩:=Option.bind_eq_some_iff.1 h2;cases h4;exact⟨l2,h3,rfl⟩
theorem zdm {P:Program}{w:World}{ats:Array TypeId}{ty:TypeId}{cn:Array Bool}{c cap s r:Nat}{buf:Array Value}{tm:Bool}(h:w.heap[c]?=some (.chan cap buf false s r tm)) :
 (invoke (.builtin .close ats ty cn) #[.chan (some c)]).run P w=.ok (.value (.tuple #[])) (w.setChan c cap buf true s r tm):=by
 have:=run_close_open (P:=P) ats ty h;simp only[invoke,builtin,Sem.run_bind,this,Result.andThen_ok,Sem.run_pure];rfl
set_option maxHeartbeats 2000000 in
theorem z10g (N:Nat) {w:World} {S:Hp} (hS:Lift.Sub S (hp w)) (hg:GlobOk glob S) {c:Nat} (hc:w.heap[c]?=some (.chan 10 #[] false 0 0 false)) (hSc:S c=none)
 {t:Tok31.den} {ts:List Tok31.den} {p a:Option Addr} {n k cap:Nat} (hv:VR S Tok31 t (.agg #[.string ⟨⟨t.1⟩⟩,.slice p n k,.string ⟨⟨t.2.2.1⟩⟩])) (hm:VR S (.sl Tok31) ts (.slice a ts.length cap)) (h8:ts.length<=8) {e:Int} {l:List (List UInt8)} (hy:zu5 N t ts=some (e,l)) :
 Calls Go.Proofs.Tryz.prog 14 #[.chan (some c),.agg #[.string ⟨⟨t.1⟩⟩,.slice p n k,.string ⟨⟨t.2.2.1⟩⟩,.slice a ts.length cap]] w fun q w'=>q=.returned (.int .i64 e)/\w.grownBy w' (some c)/\(e=0->∃ s',w'.heap[c]?=some (.chan 10 (l.map zrm).toArray true s' 0 false)):=by
 obtain⟨⟨e0,y0⟩,hx,hy⟩:=Option.bind_eq_some_iff.1 hy;dsimp only at hy
 suffices HX:∀ R:Ending->World->Prop,Go.RowKit.Hid (∀ w',w.grownBy w' (some c)->(e=0->∃ s',w'.heap[c]?=some (.chan 10 (l.map zrm).toArray true s' 0 false))->R (.returned (.int .i64 e)) w')->Calls Go.Proofs.Tryz.prog 14 #[.chan (some c),.agg #[.string ⟨⟨t.1⟩⟩,.slice p n k,.string ⟨⟨t.2.2.1⟩⟩,.slice a ts.length cap]] w R from HX _ (Go.Lib.hid (fun w' a b=>⟨rfl,a,b⟩))
 intro R HR;obtain⟨a',cap',hsl,hel⟩:=zyk hm;cases hsl;have hcl:c<w.heap.size:=(Array.getElem?_eq_some_iff.1 hc).1;have HC:=Go.Lib.hid hc;have hga:∀ (cs:Array Value) (E:Nat),w.grownBy (w.alloc (.cells cs E)) none:=fun cs E=>World.grownBy_alloc w _ none
 have HG:=Go.Lib.hid hga;have HS:=Go.Lib.hid hS;have HGl:=Go.Lib.hid hg;have HSc:=Go.Lib.hid hSc;have HE:=Go.Lib.hid hel;have HT:=Go.Lib.hid (fun (cs:Array Value) (E:Nat)=>zf4 N (w:=w.alloc (.cells cs E)) (z84 hS (hga cs E) (by simp)) hg (((hga cs E).block c hcl (by simp)).trans hc) (by decide) hv hx);have HY:=Go.Lib.hid hy;obtain⟨m,hmm⟩:∃ m,m=ts.length:=⟨_,rfl⟩
 have HM:=Go.Lib.hid hmm;rw[<- hmm] at h8 ⊢;clear hy hc hv hx hS hga hm hel hg hSc hmm;refine zgl Go.Proofs.Tryz.func14 rfl ?_;simp only[Go.Proofs.Tryz.ntmps14,List.size_toArray,List.length_cons,List.length_nil,Nat.reduceAdd,Nat.reduceSub,Array.replicate_succ,Array.replicate_zero,List.push_toArray,List.append_toArray,List.nil_append,List.cons_append]
 go_upto_region 5 with (go_at_call 27;refine (HT.out _ _).mono ?_;rintro q w1 ⟨rfl,hw1,hw1a,hw1b⟩;have HW:=Go.Lib.hid hw1;have HWa:=Go.Lib.hid hw1a;have HWb:=Go.Lib.hid hw1b;clear HT hw1 hw1a hw1b)
 . rename_i hb;have hne:¬ e0=0:=bne_iff_ne.1 hb;have he:=HY.out;rw[if_neg hne] at he;cases he;have hc1:=HWa.out hne;refine⟨_,_,_,_,rfl,⟨_,_,_,_,rfl⟩,zdm hc1,?_,HR.out _ (z5b (z66 (HG.out _ _) HW.out) (.inr rfl) ..) (fun h=>absurd h hne)⟩;simp[results,Go.Proofs.Tryz.results14,go_sem]
 . rename_i hb K5 hK5;have hz:e0=0:=by simpa using hb
   subst hz;have he:=HY.out;rw[if_pos rfl] at he;obtain⟨y1,hy1,he⟩:=Option.bind_eq_some_iff.1 he;obtain⟨⟨e2,l2⟩,hp,he⟩:=Option.bind_eq_some_iff.1 he;cases he;rw[<- HM.out] at hy1;have HF:=Go.Lib.hid (z117 N (w:=w1) hy1);have hcell:=HW.out.cell (a:=⟨w.heap.size,3,none⟩) (v:=.slice a m cap) (by rw[World.cell?_alloc_at _ _ _ _ rfl];rfl) (by simp;omega);have HP:=Go.Lib.hid hp;have hc1:=HWb.out rfl;have HC1:=Go.Lib.hid hc1;clear HY hp hc1 HWa HWb hy1 ;refine z7f 6 (by decide) rfl (fun K hK=>?_);simp only[List.take_succ_cons,List.take_zero]
   go_wp2_with (go_at_call 28;refine HF.out.mono ?_;rintro q w2 ⟨rfl,hw2⟩;have HW2:=Go.Lib.hid hw2;clear HF hw2)
   have hc2:w2.heap[c]?=some (.chan 10 (#[].push (.string ⟨⟨y0⟩⟩)) false (0+1) 0 false):=(HW2.out.block c (Array.getElem?_eq_some_iff.1 HC1.out).1 (by simp)).trans HC1.out;have g2:w.grownBy w2 (some c):=z5o (z66 (HG.out _ _) HW.out) HW2.out;have hcell2:=HW2.out.cell hcell (by simp);have hc3:=Conc.heap_setChan w2 c 10 ((#[].push (.string ⟨⟨y0⟩⟩)).push (.string ⟨⟨y1⟩⟩)) false (0+1+1) 0 false (Array.getElem?_eq_some_iff.1 hc2).1;refine RegWp.send (c:=c) (cap:=10) (s:=0+1) (r:=0) (buf:=#[].push (.string ⟨⟨y0⟩⟩)) (tm:=false) (v:=.string ⟨⟨y1⟩⟩) (rest:=[]) rfl rfl rfl rfl rfl hc2 (by simp) (RegWp.nil ?_);have g3:=z5b (c:=c) g2 (.inr rfl) 10 ((#[].push (.string ⟨⟨y0⟩⟩)).push (.string ⟨⟨y1⟩⟩)) false (0+1+1) 0 false;have hcell3:(w2.setChan c 10 ((#[].push (.string ⟨⟨y0⟩⟩)).push (.string ⟨⟨y1⟩⟩)) false (0+1+1) 0 false).cell? ⟨w.heap.size,3,none⟩=some (.slice a m cap):=by
    rw[<- hcell2];apply World.cell?_of_block;simp only[World.setChan];rw[Array.getElem?_setIfInBounds_ne (by omega)]
   generalize w2.setChan c 10 ((#[].push (.string ⟨⟨y0⟩⟩)).push (.string ⟨⟨y1⟩⟩)) false (0+1+1) 0 false=w3 at g3 hc3 hcell3 ⊢;have G3:=Go.Lib.hid g3;have H3:=Go.Lib.hid hc3;clear g2 g3 hc2 hc3 hcell hcell2;refine hK5 _ _ ?_
   go_wp2
   go_loopw [26] (fun i wr=>∃ j:Nat,i=.int .i64 (j:Int)/\j<=m/\w.grownBy wr (some c)/\∃ (buf:Array Value) (s:Nat),wr.heap[c]?=some (.chan 10 buf false s 0 false)/\buf.size=2+j/\∃ l',z90 N (ts.drop j)=some (e2,l')/\(e2=0->buf.toList++l'.map zrm=(y0::y1::l2).map zrm)) (fun i _=>m - (Go.RowKit.intOf i).toNat)
   case atStart=>exact⟨0,rfl,Nat.zero_le _,G3.out,_,_,H3.out,rfl,l2,HP.out,fun _=>rfl⟩
   case round =>
    obtain⟨j,rfl,hj,hgr,buf,s,hch,hbs,l',hpj,htot⟩:=hrel;have HGR:=Go.Lib.hid hgr;have HCH:=Go.Lib.hid hch;have HBS:=Go.Lib.hid hbs;have HTOT:=Go.Lib.hid htot;have HPJ:=Go.Lib.hid hpj;have HJ:=Go.Lib.hid hj;clear hch hbs htot hpj;have hclr:c<wr.heap.size:=Nat.lt_of_lt_of_le hcl hgr.size;rcases Nat.lt_or_ge j m with hlt|hge
    . have hd:decide ((j:Int)<(m:Int))=true:=decide_eq_true (by omega);have hb1:(0:Int)<=(j:Int):=by omega
      have hb2:(j:Int)<(m:Int):=by omega
      have hjl:j<ts.length:=by have:=HM.out;omega
      obtain⟨b,off,hab,hall⟩:=HE.out (by omega);subst hab;obtain⟨p',n',c',hv',hcc⟩:=hall j hjl;have hSr:=z84 HS.out hgr (fun q e=>by cases e;exact HSc.out);obtain⟨z1,z2,z3⟩:=hcc wr hSr;obtain⟨e1,y,htk,hne,hze⟩:=zyf N hjl HPJ.out;generalize ts.getD j ([],([],([],())))=tj at hv' z1 z2 z3 htk;have HTj:=Go.Lib.hid (fun (cs:Array Value) (E:Nat)=>zf4 N (w:=wr.alloc (.cells cs E)) (z84 hSr (World.grownBy_alloc wr _ none) (by simp)) HGl.out (((World.grownBy_alloc wr (.cells cs E) none).block c hclr (by simp)).trans HCH.out) (by have:=HBS.out;omega) hv' htk);have HNE:=Go.Lib.hid hne;have HZE:=Go.Lib.hid hze;have HGA:=Go.Lib.hid (fun (cs:Array Value) (E:Nat)=>World.grownBy_alloc wr (.cells cs E) none);have hj8:(j:Int)+1<=9:=by omega
      clear hne hze htk hv' hall hcc hSr hgr hjl hclr
      go_wp2_with (go_at_call 27;refine (HTj.out _ _).mono ?_;rintro q w5 ⟨rfl,hw5,hw5a,hw5b⟩;have HW5:=Go.Lib.hid hw5;have HWa5:=Go.Lib.hid hw5a;have HWb5:=Go.Lib.hid hw5b;clear HTj hw5 hw5a hw5b)
      . rename_i hb;have hn1:¬ e1=0:=bne_iff_ne.1 hb;have he:=HNE.out hn1;subst he;have hc5:=HWa5.out hn1;refine⟨_,_,_,_,rfl,⟨_,_,_,_,rfl⟩,zdm hc5,?_,HR.out _ (z5b (zgi HGR.out (z66 (HGA.out _ _) HW5.out)) (.inr rfl) ..) (fun h=>absurd h hn1)⟩;simp[results,Go.Proofs.Tryz.results14,go_sem]
      . rename_i hb;have hz:e1=0:=by simpa using hb
        obtain⟨l'',hp1,hl1⟩:=HZE.out hz;have hc5:=HWb5.out hz;refine⟨⟨j+1,by rw[Int.natCast_add];rfl,by omega,zgi HGR.out (z66 (HGA.out _ _) HW5.out),_,_,hc5,by have:=HBS.out;simp;omega,l'',hp1,fun h=>?_⟩,?_⟩
        . have:=HTOT.out h;rw[<- this,hl1];simp[zrm]
        . show m - ((j:Int)+1).toNat<m - (j:Int).toNat;omega
    . have hjm:j=m:=by omega
      subst hjm;have hd:decide ((j:Int)<(j:Int))=false:=decide_eq_false (by omega);have hpj:=HPJ.out;rw[List.drop_of_length_le (by have:=HM.out;omega)] at hpj;cases hpj
      go_wp2
      refine⟨_,_,_,_,rfl,⟨_,_,_,_,rfl⟩,zdm HCH.out,?_,HR.out _ (z5b HGR.out (.inr rfl) ..) (fun _=>⟨s,?_⟩)⟩
      . simp[results,Go.Proofs.Tryz.results14,go_sem]
      . have hb:buf=((y0::y1::l2).map zrm).toArray:=by
         have:=HTOT.out trivial;apply Array.toList_inj.1;simpa using this
        rw[<- hb];exact Conc.heap_setChan _ _ _ _ _ _ _ _ hclr
abbrev BlT:T:=.pair (.self 72) (.pair (.own (.byt 5)) .unit)
def JSt (w0 w:World)(c B:Nat)(xs:List UInt8):Prop :=
 ∃ S o,w0.grownBy w (some c)/\Lift.Sub S (hp w)/\(∀ k,S k≠none->w0.heap.size<=k)/\ARel (hp w) S (fun _=>undef) (.box BlT ((),(z1u xs,()))) (.pointer (some ⟨B,0,none⟩)) o/\o.Nodup/\(∀ k∈o,S k=none/\w0.heap.size<=k)
theorem zza {h h' S:Hp}{t:T}{x:t.den}{v:Value}{o:List Nat}(hr:ARel h S (fun _=>undef) (.box t x) v o)(hs:∀ k∈o,h' k=h k):ARel h' S (fun _=>undef) (.box t x) v o:=by
 obtain⟨b,cs,E,fr,bs,rfl,rfl,hb,hf,hR⟩:=hr;exact⟨b,cs,E,fr,bs,rfl,rfl,by rw[hs b (by simp)];exact hb,hf,hR.mono (Lift.Sub.refl S) _ _ _ _ (fun k hk=>hs k (by simp[hk]))⟩
theorem JSt.chan {w0 w:World}{c B:Nat}{xs:List UInt8}(h:JSt w0 w c B xs)(hc:c<w0.heap.size)(cap:Nat)(buf:Array Value)(cl:Bool)(s r:Nat)(tm:Bool):JSt w0 (w.setChan c cap buf cl s r tm) c B xs:=by
 obtain⟨S,o,h1,h2,h3,h4,h5,h6⟩:=h;have hne:∀ k,k≠c->hp (w.setChan c cap buf cl s r tm) k=hp w k:=fun k hk=>by
  simp only[hp,World.setChan];rw[Array.getElem?_setIfInBounds_ne (Ne.symm hk)]
 refine⟨S,o,z5b h1 (.inr rfl) ..,fun k q hk=>?_,h3,zza h4 (fun k hk=>hne k (by have:=(h6 k hk).2;omega)),h5,h6⟩;rw[hne k (by have:=h3 k (by rw[hk];simp);omega)];exact h2 k q hk
theorem zmd (s:List UInt8):(z1u s).length=s.length:=by simp[z1u]
theorem z115 (a b:List UInt8):z1u (a++b)=z1u a++z1u b:=by simp[z1u]
theorem zzp (N:Nat){w0 w:World}{c B:Nat}{xs s:List UInt8}(h:JSt w0 w c B xs)(hc:c<w0.heap.size)(hl:xs.length+s.length<=70368744177664) :
 Calls Go.Proofs.Tryz.prog 29 #[.pointer (some ⟨B,0,none⟩),.string ⟨⟨s⟩⟩] w fun q w'=>(∃ v,q=.returned v)/\JSt w0 w' c B (xs++s)/\w'.heap[c]?=w.heap[c]?:=by
 obtain⟨S,o,h1,h2,h3,h4,h5,h6⟩:=h;have hy:zh N ((),(z1u xs,())) s=some (((((s.length:Nat):Int)),(Go.Value.nilIface,())),(((),(z1u (xs++s),())),())):=by
  unfold zh;rw[decide_eq_true (by rw[zmd,zmd];simpa using hl),z115];rfl
 have har:=zxm h4 h5 (fun k hk=>(h6 k hk).1) (zel (w:=w) (a:=.v .str s) (v:=.string ⟨⟨s⟩⟩) ⟨VR.str,rfl⟩ rfl);refine ((z1g N).2 w S _ _ _ har h2 (z8o S) _ hy).mono ?_;rintro e w' ⟨v,S',q,ob',rfl,hwf,hSS,hSw,hnew,⟨hr,_⟩,hq,_,hbox,hob1,hob2,hob3,_⟩;have hin:∀ k,(∃ i,k∈(fun i=>if i=0 then o else []) i)->k∈o:=by
  rintro k ⟨i,hi⟩;by_cases hi0:i=0
  . simpa[hi0] using hi
  . simp[hi0] at hi
 have hlo:∀ k,k<w0.heap.size->¬ k∈o:=fun k hk hm=>by have:=(h6 k hm).2;omega
 have hsz:=h1.size;have hcw:w'.heap[c]?=w.heap[c]?:=hwf.same c (by omega) (fun hh=>hlo c hc (hin c hh));obtain⟨x2,v2,g1,g2,_,g4⟩:=hbox 0 _ rfl rfl;have g1':some (A.box BlT ((),(z1u (xs++s),())))=some x2:=g1;cases g1';simp at g2;subst g2;refine⟨⟨v,rfl⟩,⟨S',ob' 0,⟨hwf.os.trans h1.os,hwf.tape.trans h1.tape,hwf.output.trans h1.output,Nat.le_trans hsz hwf.size,fun k hk hne=>?_⟩,hSw,fun k hk=>?_,g4,hob3 0,fun k hk=>⟨(hob1 0 k hk).2.1,?_⟩⟩,hcw⟩
 . rw[hwf.same k (by omega) (fun hh=>hlo k hk (hin k hh))];exact h1.block k hk hne
 . rcases hnew k hk with h|h|h
   . exact h3 k h
   . exact (h6 k (hin k h)).2
   . omega
 . rcases (hob1 0 k hk).1 with h|h
   . exact (h6 k (hin k h)).2
   . omega
theorem zyh (s:List UInt8):ziw (z1u s)=true:=by
 unfold ziw z1u;rw[List.all_eq_true];intro n hn;obtain⟨b,_,rfl⟩:=List.mem_map.1 hn;have:=b.toNat_lt;simp;omega
theorem zxs (s:List UInt8):z2e (z1u s)=s:=by
 unfold z2e z1u;rw[List.map_map]
 conv=>rhs;rw[<- List.map_id s]
 apply List.map_congr_left;intro b _;simp
theorem zxy (N:Nat){w0 w:World}{c B:Nat}{xs:List UInt8}(h:JSt w0 w c B xs)(hl:xs.length<=70368744177664) :
 Calls Go.Proofs.Tryz.prog 30 #[.pointer (some ⟨B,0,none⟩)] w fun q w'=>q=.returned (.string ⟨⟨xs⟩⟩)/\w0.grownBy w' (some c):=by
 obtain⟨S,o,h1,h2,h3,h4,h5,h6⟩:=h;have hy:zii (((),(z1u xs,())),())=some (xs,(((),((),())),())):=by
  unfold zii;dsimp only;rw[zyh,decide_eq_true (by rw[zmd];omega),zxs];rfl
 have har:=zxm h4 h5 (fun k hk=>(h6 k hk).1) (zvz (w:=w) (S:=S));refine ((zrl z17).2 w S _ _ _ har h2 (z8o S) _ hy).mono ?_;rintro e w' ⟨v,S',q,ob',rfl,hwf,hSS,hSw,hnew,⟨hr,_⟩,_⟩;have hin:∀ k,(∃ i,k∈(fun i=>if i=0 then o else []) i)->k∈o:=by
  rintro k ⟨i,hi⟩;by_cases hi0:i=0
  . simpa[hi0] using hi
  . simp[hi0] at hi
 have hv:VR S' .str xs v:=hr.1;have hsz:=h1.size;exact⟨by rw[VR.str_inv hv],hwf.os.trans h1.os,hwf.tape.trans h1.tape,hwf.output.trans h1.output,Nat.le_trans hsz hwf.size,fun k hk hne=>(hwf.same k (by omega) (fun hh=>by have:=(h6 k (hin k hh)).2;omega)).trans (h1.block k hk hne)⟩
def zmt (w:World)(c:Nat):Nat:=match w.heap[c]? with|some (.chan _ buf _ _ _ _)=>buf.size|_=>0
theorem JSt.start (w:World)(c:Nat):JSt w (w.alloc (.cells #[.pointer none,.slice none 0 0] 72)) c w.heap.size []:=by
 refine⟨z13f,[w.heap.size],?_,z11b _,fun k hk=>absurd rfl hk,?_,by simp,fun k hk=>⟨rfl,by simp at hk;omega⟩⟩
 . exact World.grownBy_alloc w _ _
 . refine⟨w.heap.size,#[.pointer none,.slice none 0 0],72,(0,0),[],rfl,rfl,?_,?_,?_⟩
   . exact heap_alloc_new w _
   . exact⟨Nat.le_refl _,fun i _ h=>by omega⟩
   . exact⟨[.pointer none],[.slice none 0 0],[],[],rfl,rfl,⟨rfl,_,rfl,rfl,.inl rfl⟩,[.slice none 0 0],[],[],[],rfl,rfl,⟨_,rfl,.inl ⟨rfl,⟨none,rfl,fun _ _=>rfl⟩,rfl⟩⟩,rfl,rfl⟩
set_option maxHeartbeats 2000000 in
theorem z11v (N:Nat) {w:World} {c s r:Nat} {l:List (List UInt8)} (hc:w.heap[c]?=some (.chan 10 (l.map zrm).toArray true s r false)) (hlen:l.flatten.length<=70368744177664) :
 Calls Go.Proofs.Tryz.prog 15 #[.chan (some c)] w fun q w'=>q=.returned (.string ⟨⟨l.flatten⟩⟩)/\w.grownBy w' (some c):=by
 suffices HX:∀ R:Ending->World->Prop,Go.RowKit.Hid (∀ w',w.grownBy w' (some c)->R (.returned (.string ⟨⟨l.flatten⟩⟩)) w')->Calls Go.Proofs.Tryz.prog 15 #[.chan (some c)] w R from HX _ (Go.Lib.hid (fun w' a=>⟨rfl,a⟩))
 intro R HR;have hcl:c<w.heap.size:=(Array.getElem?_eq_some_iff.1 hc).1;have HJ:=Go.Lib.hid (JSt.start w c);have HC:=Go.Lib.hid (((World.grownBy_alloc w (.cells #[.pointer none,.slice none 0 0] 72) none).block c hcl (by simp)).trans hc);have HCL:=Go.Lib.hid hcl;clear hc hcl
 go_enter Go.Proofs.Tryz.func15,Go.Proofs.Tryz.ntmps15
 go_wp2
 go_loopw [] (fun wr=>∃ l1 l2:List (List UInt8),l=l1++l2/\JSt w wr c w.heap.size l1.flatten/\∃ s r,wr.heap[c]?=some (.chan 10 (l2.map zrm).toArray true s r false)) (fun wr=>zmt wr c)
 case atStart=>exact⟨[],l,rfl,HJ.out,s,r,HC.out⟩
 case round =>
  obtain⟨l1,l2,hl,hj,s1,r1,hch⟩:=hrel;have HJr:=Go.Lib.hid hj;have HCr:=Go.Lib.hid hch;have HL:=Go.Lib.hid hl;clear hj hch hl
  go_upto_region 3 with (fail)
  rename_i K3 hK3;cases l2 with
  | nil =>
    refine z7f 0 (by decide) rfl (fun K hK=>wpList_nil (hK _ _ ?_));refine RegWp.recv_shut (c:=c) (cap:=10) (s:=s1) (r:=r1) (tm:=false) (z:=.string ⟨#[]⟩) (rest:=[1]) rfl rfl (by simp[go_sem,Conc.rcase]) HCr.out ?_;refine RegWp.behind 1 (by decide) rfl (fun K hK=>?_);simp only[List.drop_succ_cons,List.drop_zero];have hll:l=l1:=by rw[HL.out,List.append_nil]
    have HT:=Go.Lib.hid (zxy N (xs:=l.flatten) (by rw[hll];exact HJr.out) hlen);clear hll
    go_wp2_with (go_at_call 30;refine HT.out.mono ?_;rintro q w5 ⟨rfl,hw5⟩;have HW5:=Go.Lib.hid hw5;clear HT hw5)
    exact HR.out _ HW5.out
  | cons x l2 =>
    have hcs:=Conc.heap_setChan wr c 10 ((x::l2).map zrm).toArray true s1 (r1+1) false (Array.getElem?_eq_some_iff.1 HCr.out).1;refine z7f 0 (by decide) rfl (fun K hK=>wpList_nil (hK _ _ ?_));refine RegWp.recv_buf (c:=c) (cap:=10) (s:=s1) (r:=r1) (tm:=false) (closed:=true) (z:=.string ⟨#[]⟩) (rest:=[1]) rfl rfl (by simp[go_sem,Conc.rcase]) HCr.out (by simp) ?_;refine RegWp.behind 1 (by decide) rfl (fun K hK=>?_);simp only[List.drop_succ_cons,List.drop_zero];have e0:(List.map zrm (x::l2)).toArray.getD 0 undef=.string ⟨⟨x⟩⟩:=rfl;have e1:(List.map zrm (x::l2)).toArray.extract 1 (List.map zrm (x::l2)).toArray.size=(l2.map zrm).toArray:=by simp[List.take_of_length_le]
    rw[e0,e1];have hcw:=Conc.heap_setChan wr c 10 (l2.map zrm).toArray true s1 (r1+1) false (Array.getElem?_eq_some_iff.1 HCr.out).1;have hjw:=HJr.out.chan HCL.out 10 (l2.map zrm).toArray true s1 (r1+1) false;have hb:l1.flatten.length+x.length<=70368744177664:=by
     have:=HL.out;rw[this] at hlen;simp at hlen ⊢;omega
    have hlt:zmt (wr.setChan c 10 (l2.map zrm).toArray true s1 (r1+1) false) c<zmt wr c:=by
     unfold zmt;rw[hcw,HCr.out];simp
    generalize wr.setChan c 10 (l2.map zrm).toArray true s1 (r1+1) false=w4 at hcw hjw hlt ⊢;have HT:=Go.Lib.hid (zzp N hjw HCL.out hb);have HC4:=Go.Lib.hid hcw;have HLT:=Go.Lib.hid hlt;clear hcw hjw hlt hb e0 e1 hcs
    go_wp2_with (go_at_call 29;refine HT.out.mono ?_;rintro q w5 ⟨⟨v5,rfl⟩,hw5,hw5c⟩;have HW5:=Go.Lib.hid hw5;have HW5c:=Go.Lib.hid hw5c;clear HT hw5 hw5c)
    refine⟨⟨l1++[x],l2,by rw[HL.out];simp,by rw[show (l1++[x]).flatten=l1.flatten++x by simp];exact HW5.out,s1,r1+1,HW5c.out.trans HC4.out⟩,?_⟩;have:=HLT.out;unfold zmt at this ⊢;rw[HW5c.out];exact this
def z6a (N:Nat)(b:Bun31.den):Option (List UInt8×(Int×Unit)) :=
 if 8<b.2.1.length then some ([],(3,())) else (zu5 N b.1 b.2.1).bind fun q=>if q.1=0 then (if q.2.flatten.length<=70368744177664 then (if 65536<q.2.flatten.length then some ([],(3,())) else some (q.2.flatten,(0,()))) else none) else some ([],(q.1,()))
def zfo (N:Nat):List A->Res:=z11 [(0,.v Bun31)] (fun x=>z6a N x.1) (z2i (.tup [.str,.int .i64]) 1)
theorem zta:∃ i,Go.Proofs.Tryz.prog.info? 9=some i/\i.bytes=16:=by
 have h:(Go.Proofs.Tryz.prog.info? 9).map (·.bytes)=some 16:=by kernel_rfl
 obtain⟨i,hi,hb⟩:=Option.map_eq_some_iff.1 h;exact⟨i,hi,hb⟩
theorem z11g (w:World):(Instr.makeChan 45 (.int .i64 10)).run Go.Proofs.Tryz.prog w=.ok (.chan (some w.heap.size)) (w.alloc (.chan 10 #[] false 0 0 false)):=by
 obtain⟨i,hi,hb⟩:=zta;simpa using Conc.run_makeChan (P:=Go.Proofs.Tryz.prog) (w:=w) Go.Proofs.Tryz.underlying45 hi .i64 10 (by omega) (by rw[hb];omega)
set_option maxHeartbeats 2000000 in
theorem zyb (N:Nat) {w:World} {S:Hp} (hS:Lift.Sub S (hp w)) (hg:GlobOk glob S) {t:Tok31.den} {ts:List Tok31.den} {v:Value} (hv:VR S Bun31 (t,(ts,())) v) {x:List UInt8} {e:Int} (hy:z6a N (t,(ts,()))=some (x,(e,()))) :
 Calls Go.Proofs.Tryz.prog 6 #[v] w fun q w'=>q=.returned (.tuple #[.string ⟨⟨x⟩⟩,.int .i64 e])/\w.grownBy w' none:=by
 suffices HX:∀ R:Ending->World->Prop,Go.RowKit.Hid (∀ w',w.grownBy w' none->R (.returned (.tuple #[.string ⟨⟨x⟩⟩,.int .i64 e])) w')->Calls Go.Proofs.Tryz.prog 6 #[v] w R from HX _ (Go.Lib.hid (fun w' a=>⟨rfl,a⟩))
 intro R HR;obtain⟨p,n,c,a,cap,rfl,hvt,hvs⟩:=z12q hv;clear hv;unfold z6a at hy;dsimp only at hy;have hb:VR S Bun31 (t,(ts,())) (.agg #[.string ⟨⟨t.1⟩⟩,.slice p n c,.string ⟨⟨t.2.2.1⟩⟩,.slice a ts.length cap])\/True:=.inr trivial;clear hb;by_cases h8:8<ts.length
 . rw[if_pos h8] at hy;cases hy;have h8':(8:Int)<(ts.length:Int):=by omega
   have hgr:=Go.Lib.hid (fun (cs:Array Value) (E:Nat)=>World.grownBy_alloc w (.cells cs E) none);clear hvt hvs
   go_enter Go.Proofs.Tryz.func6,Go.Proofs.Tryz.ntmps6
   go_wp2
   exact HR.out _ (hgr.out _ _)
 . rw[if_neg h8] at hy;obtain⟨⟨e1,l⟩,hs,hy⟩:=Option.bind_eq_some_iff.1 hy;dsimp only at hy;have h8':¬ (8:Int)<(ts.length:Int):=by omega
   have hmk:=z11g;have g1:∀ (cs:Array Value) (E:Nat),w.grownBy ((w.alloc (.cells cs E)).alloc (.chan 10 #[] false 0 0 false)) none:=fun cs E =>
    z5o (World.grownBy_alloc w (.cells cs E) none) (World.grownBy_alloc _ _ none)
   have HG:=Go.Lib.hid g1;have hsc:S (w.heap.size+1)=none:=by
    cases hsx:S (w.heap.size+1) with
    | none=>rfl
    | some q =>
      have:=(Array.getElem?_eq_some_iff.1 (show w.heap[w.heap.size+1]?=some q from hS _ _ hsx)).1;omega
   have hch:∀ (cs:Array Value) (E:Nat),((w.alloc (.cells cs E)).alloc (.chan 10 #[] false 0 0 false)).heap[w.heap.size+1]?=some (.chan 10 #[] false 0 0 false):=fun cs E=>by
    have:=heap_alloc_new (w.alloc (.cells cs E)) (.chan 10 #[] false 0 0 false);simpa using this
   have HSe:=Go.Lib.hid (fun (cs:Array Value) (E:Nat)=>z10g N (w:=(w.alloc (.cells cs E)).alloc (.chan 10 #[] false 0 0 false)) (z84 hS (g1 cs E) (by simp)) hg (hch cs E) hsc hvt hvs (by omega) hs);have HY:=Go.Lib.hid hy;have hle:ts.length<=8:=by omega
   clear hvt hvs hs hy g1 hsc hch hS hg
   go_enter Go.Proofs.Tryz.func6,Go.Proofs.Tryz.ntmps6
   go_upto_region 7 with (go_at_call 14;refine (HSe.out _ _).mono ?_;rintro q w1 ⟨rfl,hw1,hw1c⟩;have HW1:=Go.Lib.hid hw1;have HW1c:=Go.Lib.hid hw1c;clear HSe hw1 hw1c)
   . rename_i hb;have hne:¬ e1=0:=bne_iff_ne.1 hb;have he:=HY.out;rw[if_neg hne] at he;cases he;have hw:=z66 (HG.out _ _) HW1.out;exact HR.out _ ⟨hw.os,hw.tape,hw.output,hw.size,fun k hk _=>hw.block k hk (by intro e;cases e;omega)⟩
   . rename_i hb K7 hK7;have hz:e1=0:=by simpa using hb
     subst hz;obtain⟨s',hch1⟩:=HW1c.out rfl;have he:=HY.out;rw[if_pos rfl] at he;by_cases hfl:l.flatten.length<=70368744177664
     . rw[if_pos hfl] at he;have HT:=Go.Lib.hid (z11v N hch1 hfl);have hw:=z66 (HG.out _ _) HW1.out;have HW:=Go.Lib.hid hw;have HF:=Go.Lib.hid hfl;have HEq:=Go.Lib.hid he;have fin:∀ w2,w1.grownBy w2 (some (w.heap.size+1))->w.grownBy w2 none:=fun w2 h2=>by
        have:=zgi hw h2;exact⟨this.os,this.tape,this.output,this.size,fun k hk _=>this.block k hk (by intro e;cases e;omega)⟩
       have HFi:=Go.Lib.hid fin;clear hch1 he hfl hw fin HY HG HW1c
       go_wp2_with (go_at_call 15;refine HT.out.mono ?_;rintro q w2 ⟨rfl,hw2⟩;have HW2:=Go.Lib.hid hw2;clear HT hw2)
       . rename_i hb2;have he:=HEq.out;rw[if_pos (by have:l.flatten.length=(List.map List.length l).sum:=List.length_flatten;omega)] at he;cases he;exact HR.out _ (HFi.out _ HW2.out)
       . rename_i hb2;have he:=HEq.out;rw[if_neg (by have:l.flatten.length=(List.map List.length l).sum:=List.length_flatten;omega)] at he;cases he;exact HR.out _ (HFi.out _ HW2.out)
     . rw[if_neg hfl] at he;cases he
theorem zzw (h S:Hp)(x:List UInt8)(c:Int):ARel h S (fun _=>undef) (.tup [⟨.str,x⟩,⟨.int .i64,c⟩]) (.tuple #[.string ⟨⟨x⟩⟩,.int .i64 c]) [] :=
 ⟨rfl,_,rfl,.cons VR.str (.cons VR.int .nil)⟩
theorem zqq (N:Nat):Contract Go.Proofs.Tryz.prog glob 6 (zfo N):=by
 refine Contract.hand ⟨_,Go.Proofs.Tryz.func6,by kernel_rfl,by decide⟩ ?_;rintro w S vals ob ⟨⟨t,ts,⟨⟩⟩,⟨⟩⟩ y har hS hg hy;obtain⟨x,e,⟨⟩⟩:=y;have hy':z6a N (t,(ts,()))=some (x,(e,())):=hy;obtain⟨⟨u1,e1,r1⟩,_⟩:=har.rel 0 _ rfl;have hob:∀ i,ob i=[]:=by
  intro i
  match i with
  | 0=>exact r1.2
  | i+1=>exact har.out _ (by simp[mkS,z2p])
 have hvals:vals=[u1]:=by
  match vals,har.len,e1 with
  | [a],_,h1=>simp at h1;rw[h1]
 subst hvals;have hbx:∀ y∈(mkS [(0,.v Bun31)] 0 (((t,(ts,())),()):z1b [(0,.v Bun31)])),z6r y=false:=by
  intro y hy;have hy:y∈[A.v Bun31 (t,(ts,()))]:=hy;rw[List.mem_singleton.1 hy];rfl
 refine (zyb N hS hg r1.1 hy').mono ?_;rintro q w' ⟨rfl,hg1⟩;exact zmv hS hbx hob ⟨hg1.size,fun k hk=>hg1.block k hk (by simp),hg1.tape,hg1.os,hg1.output⟩ (fun S'=>zzw _ _ x e) rfl
end
end Go.Proofs.YthdblfmolchhpaaGreatDoorLg
set_option linter.all false
set_option maxRecDepth 100000
namespace Go.Proofs.YthdblfmolchhpaaGreatDoorLg
noncomputable section
open Go Go.Lift
def z160:Code:=(Tryz.f5.body).getD .skip
def z1nl:List (List Nat×List Nat):=[([0],[]),([0,1],[0]),([1,1],[0])]
def z1ev (N:Nat):Env:=z14 tys glob [(8,z9r N),(11,z97 N),(12,zcm N),(13,ze3 N)] [] [] [] false [] [(102,zi N),(79,zd N),(108,z8 N)]
theorem z1ek (N:Nat):EnvOk Tryz.prog (z1ev N):=ze mixed zq (FnsOk.cons (zia N) (FnsOk.cons ((Contract.up (zje N) glob)) (FnsOk.cons ((Contract.up (zmz N) glob)) (FnsOk.cons ((Contract.up (zo6 N) glob)) (FnsOk.nil))))) (ItsOk.cons (zj N) (ItsOk.cons (zg N) (ItsOk.cons (zb N) (ItsOk.nil))))
def z1w (N:Nat):Option Bool :=
 (zgm N (([]:List DT8),((0:Int),()))).bind fun y =>
 cond (y == (1:Int))
 (some true)
 (some false)
def z1gm (N:Nat):Tab Bool:=[]
theorem z15c (N:Nat)(x:z1b []):z2b (z1ev N) N (z1gm N) z1nl Tryz.f5 (mkS [] 0 x) (z1c (.v .bool) 0)=z1w N:=by kernel_rfl
def z6p (N:Nat):List A->Res:=z11 [] (fun x=>z1w N) (z2i (.v .bool) 0)
theorem zex (N:Nat):Contract Tryz.prog glob 5 (z6p N) :=
 Contract.of (E:=z1ev N) (H:=z1gm N) (L:=z1nl) (N:=N) (body:=z160) (K:=(z1c (.v .bool) 0)) (z1ek N) Tryz.func5 (by kernel_rfl) (by decide) (fun _ hb=>TabOk.nil) (fun x y h=>by rw[z15c];exact h) (zm (s:=(.v .bool)) (m:=0))
def zby:Code:=(Tryz.f3.body).getD .skip
def z13b:List (List Nat×List Nat):=[([0],[0,3]),([0,0,1],[21,3,0]),([1,0,1],[3,0]),([0,0,1,0,1],[4]),([1,0,1,0,1],[4]),([0,0,1,1],[5,3,0]),([0,1,0,1,1],[5,3,0]),([0,0,0,0,1,0,1,1],[27,3,5,0]),([1,0,0,0,1,0,1,1],[3,5,0]),([1,1,0,0,0,1,0,1,1],[3,0]),([0,0,0,1,0,0,1,0,1,1],[37,5,3,0]),([1,0,0,1,0,0,1,0,1,1],[5,3,0]),([0,0,1,0,0,1,0,0,1,0,1,1],[4]),([1,0,1,0,0,1,0,0,1,0,1,1],[4]),(zzg,[5,3,0]),([1,1,0,0,1,0,1,1],[5,3,0]),([1,0,1,1],[3,0]),([0,1,1,1],[7,0,3,6]),([0,1,1,1,1],[4]),([1,1,1,1,1],[4])]
def zzh (N:Nat):Env:=z14 tys glob [(5,z6p N),(4,z6n N),(6,zfo N),(7,zcp N),(8,z9r N),(9,zcq N)] [] [] [] false [] [(102,zi N),(79,zd N),(108,z8 N)]
theorem z1ej (N:Nat):EnvOk Tryz.prog (zzh N):=ze mixed zq (FnsOk.cons (zex N) (FnsOk.cons (zev N) (FnsOk.cons (zqq N) (FnsOk.cons (znh N) (FnsOk.cons (zia N) (FnsOk.cons (zni N) (FnsOk.nil))))))) (ItsOk.cons (zj N) (ItsOk.cons (zg N) (ItsOk.cons (zb N) (ItsOk.nil))))
def z2w (N:Nat)(key:(List UInt8))(b:(DT6×((List DT6)×Unit)))(k0:Bool->Option Bool):Option Bool :=
 cond (decide ((100:Int)<(((List.length key):Nat):Int)))
 (k0 true)
 ((z2u N b).bind fun y =>
 cond y
 (k0 true)
 (k0 (decide ((12:Int)<(((List.length b.1.2.1):Nat):Int)))))
def z17q (N:Nat)(x:z1b z189)(K:Ex->List A->Option Bool):Option Bool :=
 z2w N x.1 x.2.1 (fun a2=>(K .normal (mkS [(0,.v .str),(2,.box zfq),(17,.v .bool)] 44 (x.1,x.2.1,a2,()))))
def z17h (N:Nat):Hd Bool:=fun st K=>(unS z189 62 (restr [0,3] 0 st)).bind fun x=>z17q N x K
def z1gx (N:Nat):Tab Bool:=[]
theorem z19w {N:Nat}{c:Ctx}(hb:Base Tryz.prog (zzh N) c):zw Tryz.prog c (zk zby [0,0,1]) (z17h N) :=
 z13 (s:=z189) (m:=62) (g:=z17q N) [0,3] (zf hb N (z1gx N) z13b zby TabOk.nil [0,0,1] _ rfl) (fun x K=>by kernel_rfl)
def z2x (N:Nat)(key:(List UInt8))(b:(DT6×((List DT6)×Unit)))(k0:Bool->Option Bool)(k1:Option Bool):Option Bool :=
 z2w N key b
 (fun x21=>cond x21
 ((z1w N).bind fun y =>
 k0 y)
 (k1))
def z17s (N:Nat)(x:z1b z189)(K:Ex->List A->Option Bool):Option Bool :=
 z2x N x.1 x.2.1 (fun a0=>(K .ret (mkS [(4,.v .bool)] 61 (a0,())))) (K .normal (mkS z189 62 (x.1,x.2.1,())))
def z17j (N:Nat):Hd Bool:=fun st K=>(unS z189 62 (restr [0,3] 0 st)).bind fun x=>z17s N x K
def z1gz (N:Nat):Tab Bool:=[([0,0,1],z17h N)]
theorem z19y {N:Nat}{c:Ctx}(hb:Base Tryz.prog (zzh N) c):zw Tryz.prog c (zk zby [0,1]) (z17j N) :=
 z13 (s:=z189) (m:=62) (g:=z17s N) [0,3] (zf hb N (z1gz N) z13b zby (TabOk.cons (z19w hb) TabOk.nil) [0,1] _ rfl) (fun x K=>by kernel_rfl)
def z2v (N:Nat)(key:(List UInt8))(b:(DT6×((List DT6)×Unit)))(i:Int)(rec:Int->Option Bool)(k0:Bool->Option Bool)(k1:Option Bool):Option Bool :=
 cond (decide (i<(((List.length b.2.1):Nat):Int)))
 (cond (inR i (List.length b.2.1))
 (cond (decide ((12:Int)<(((List.length (List.getD b.2.1 (Int.toNat i) (([]:List UInt8),(([]:List ((List UInt8)×DT4)),(([]:List UInt8),())))).2.1):Nat):Int)))
 ((z1w N).bind fun y =>
 k0 y)
 (rec (IntKind.wrap IntKind.i64 (i+(1:Int)))))
 (none))
 (k1)
def z5a (N:Nat)(key:(List UInt8))(b:(DT6×((List DT6)×Unit)))(i:Int)(k0:Bool->Option Bool)(k1:Option Bool):Option Bool :=
 iter (fun (v:Int) r=>z2v N key b v (fun i=>(r i)) k0 k1) N i
def z17o (N:Nat)(i:((List UInt8)×(DT6×((List DT6)×Unit))))(v:Int)(r:Int->Option Bool)(K:Ex->List A->Option Bool):Option Bool :=
 z2v N i.1 i.2 v (fun i=>(r i)) (fun a0=>(K .ret (mkS [(4,.v .bool)] 61 (a0,())))) (K (.exit 0) (mkS z189 62 (i.1,i.2,())))
def z17f (N:Nat):Hd Bool:=fun st K=>(unS [(0,.v .str),(2,.box zfq),(1,.v (.int .i64))] 60 (restr [5,3,0] 0 st)).bind fun x=>iter (fun v r=>z17o N ((fun x=>(x.1,x.2.1)) x) v r K) N ((fun x=>x.2.2.1) x)
def z1gv (N:Nat):Tab Bool:=[]
theorem z19u {N:Nat}{c:Ctx}(hb:Base Tryz.prog (zzh N) c):zw Tryz.prog c (zk zby [0,1,0,1,1]) (z17f N) :=
 z1v (s:=[(0,.v .str),(2,.box zfq),(1,.v (.int .i64))]) (m:=60) (z17o N) [5,3,0] N (fun x=>(x.1,x.2.1)) (fun x=>x.2.2.1) (fun i v=>(i.1,i.2,v,())) (fun _=>rfl) (zf hb N (z1gv N) z13b zby TabOk.nil [0,0,1,0,1,1] _ rfl) (fun i v r K=>by kernel_rfl)
def z1x (N:Nat)(key:(List UInt8))(b:(DT6×((List DT6)×Unit))):Option Bool :=
 z2x N key b
 (fun x4=>some x4)
 (z5a N key b (0:Int)
 (fun x41=>some x41)
 ((z6a N b).bind fun y =>
 cond (y.2.1 != (0:Int))
 ((z1w N).bind fun y1 =>
 some y1)
 ((z7x N key b).bind fun y2 =>
 cond (decide (y2<=(IntKind.wrap IntKind.i64 (Int.tdiv (if ((0:Int) > (((List.length y.1):Nat):Int)) then (0:Int) else (((List.length y.1):Nat):Int)) (2:Int)))))
 ((z7y N b).bind fun y3 =>
 cond (decide (y3<=(IntKind.wrap IntKind.i64 (Int.tdiv (if ((0:Int) > (((List.length y.1):Nat):Int)) then (0:Int) else (((List.length y.1):Nat):Int)) (2:Int)))))
 ((z1w N).bind fun y4 =>
 some y4)
 (some false))
 (some false))))
def z1gl (N:Nat):Tab Bool:=[([0,1],z17j N),([0,1,0,1,1],z17f N)]
theorem z15b (N:Nat)(x:z1b z1f9):z2b (zzh N) N (z1gl N) z13b Tryz.f3 (mkS z1f9 0 x) (z1c (.v .bool) 2)=z1x N x.1 x.2.1:=by kernel_rfl
def z9m (N:Nat):List A->Res:=z11 z1f9 (fun x=>z1x N x.1 x.2.1) (z2i (.v .bool) 2)
theorem za8 (N:Nat):Contract Tryz.prog glob 3 (z9m N) :=
 Contract.of (E:=zzh N) (H:=z1gl N) (L:=z13b) (N:=N) (body:=zby) (K:=(z1c (.v .bool) 2)) (z1ej N) Tryz.func3 (by kernel_rfl) (by decide) (fun _ hb=>(TabOk.cons (z19y hb) (TabOk.cons (z19u hb) TabOk.nil))) (fun x y h=>by rw[z15b];exact h) (zm (s:=(.v .bool)) (m:=2))
end
end Go.Proofs.YthdblfmolchhpaaGreatDoorLg
set_option linter.all false
namespace Go.Proofs.YthdblfmolchhpaaGreatDoorLg
noncomputable section
open Go Go.Lift
theorem zky {α σ β:Type}{step:α->σ->(σ->Option β)->Option β}{fin:σ->Option β}(I:σ->List α->Prop)(g:σ->α->σ)
 (h:∀ y ys v r,I v (y::ys)->step y v r=r (g v y)/\I (g v y) ys):∀ (xs:List α) (v:σ),I v xs->zht step fin xs v=fin (xs.foldl g v)
 | [],v,_=>rfl
 | y::ys,v,hI=>by
   obtain⟨h1,h2⟩:=h y ys v (zht step fin ys) hI;rw[zht,h1,zky I g h ys _ h2];rfl
theorem zdx {α:Type}(y:α)(l:List α):ztt y (some l) (some [])=some (y::l):=rfl
theorem toStr_ofStr (s:List UInt8):z2e (z1u s)=s:=by
 induction s with
 | nil=>rfl
 | cons b s ih =>
   simp only[z2e,z1u,List.map_cons,List.cons.injEq];refine⟨?_,by simpa[z2e,z1u] using ih⟩;apply UInt8.toNat_inj.1;simp
theorem zsa (s:List UInt8):(z1u s).all (fun n=>decide (0<=n) && decide (n<256))=true:=by
 rw[List.all_eq_true];intro n hn;obtain⟨b,_,rfl⟩:=List.mem_map.1 hn;have:=b.toNat_lt;simp only[Bool.and_eq_true,decide_eq_true_eq];omega
end
end Go.Proofs.YthdblfmolchhpaaGreatDoorLg
set_option linter.all false
namespace Go.Proofs.YthdblfmolchhpaaGreatDoorPx
noncomputable section
open Go Go.Lift
theorem z65 {σ β:Type}{step:σ->(σ->Option β)->Option β}(I:σ->Prop)(m:σ->Nat)(R:σ->Option β)
 (h:∀ v r,I v->(∀ v',I v'->m v'<m v->r v'=R v')->step v r=R v):∀ (n:Nat) (v:σ),I v->m v<n->iter step n v=R v
 | 0,v,_,hm=>by omega
 | n+1,v,hv,hm=>h v (iter step n) hv fun v' hv' hlt=>z65 I m R h n v' hv' (by omega)
theorem zhs {σ β:Type}{step:σ->(σ->Option β)->Option β}(I:σ->Prop)(m:σ->Nat)(p:Option β->Prop)
 (h:∀ v r,I v->(∀ v',I v'->m v'<m v->p (r v'))->p (step v r)):∀ (n:Nat) (v:σ),I v->m v<n->p (iter step n v)
 | 0,v,_,hm=>by omega
 | n+1,v,hv,hm=>h v (iter step n) hv fun v' hv' hlt=>zhs I m p h n v' hv' (by omega)
theorem z1fm (x:Int):IntKind.wrap .i64 x=(x+9223372036854775808) % 18446744073709551616 - 9223372036854775808:=by
 simp only[IntKind.wrap,IntKind.bits,IntKind.signed,Bool.true_and,decide_eq_true_eq,Nat.add_one_sub_one,Int.reducePow,ge_iff_le];split<;>omega
def I64 (x:Int):Prop:=-9223372036854775808<=x/\x<=9223372036854775807
instance (x:Int):Decidable (I64 x):=by unfold I64;infer_instance
theorem z2j {x:Int}(h:I64 x):IntKind.wrap .i64 x=x:=by
 rw[z1fm];unfold I64 at h;omega
theorem zn {α:Type}{b:Bool}(h:b=true)(x y:α):cond b x y=x:=by rw[h];rfl
theorem z1i {α:Type}{b:Bool}(h:b=false)(x y:α):cond b x y=y:=by rw[h];rfl
theorem z28 {n len:Nat}(h:n<len):inR (n:Int) len=true:=by simp only[inR,decide_eq_true_eq];omega
def zqi:T->Bool
 | .int _=>true
 | .bool=>true
 | .str=>true
 | .unit=>true
 | .pair a b=>zqi a && zqi b
 | .arr _ t=>zqi t
 | _=>false
theorem zqh:∀ (t:T) (x y:t.den),zqi t=true->(eqD t x y=true ↔ x=y)
 | .int _,x,y,_=>by simp[eqD]
 | .bool,x,y,_=>by simp[eqD]
 | .str,x,y,_=>by simp[eqD]
 | .unit,x,y,_=>by simp[eqD]
 | .pair a b,x,y,h=>by
   simp only[zqi,Bool.and_eq_true] at h;have h1:=zqh a x.1 y.1 h.1;have h2:=zqh b x.2 y.2 h.2;simp only[eqD];cases hq:eqD a x.1 y.1 with
   | false =>
     rw[hq] at h1;simp only[cond_false,Bool.false_eq_true,false_iff];intro e;exact absurd (h1.2 (by rw[e])) (by simp)
   | true =>
     rw[cond_true,h2];constructor
     . intro e;exact Prod.ext (h1.1 hq) e
     . intro e;rw[e]
 | .arr n t,xs,ys,h=>by
   have h:zqi t=true:=h;simp only[eqD]
   induction xs generalizing ys with
   | nil=>cases ys<;>simp[zxb]
   | cons x xs ih =>
     cases ys with
     | nil=>simp[zxb]
     | cons y ys =>
       have h1:=zqh t x y h;simp only[zxb];cases hq:eqD t x y with
       | false =>
         rw[hq] at h1;simp only[cond_false,Bool.false_eq_true,false_iff];intro e;exact absurd (h1.2 (List.cons.inj e).1) (by simp)
       | true =>
         rw[cond_true];have h2:zxb (eqD t) xs ys=true ↔ xs=ys:=ih ys;constructor
         . intro e;rw[h1.1 hq,h2.1 e]
         . intro e;exact h2.2 (List.cons.inj e).2
 | .opq,x,y,h=>by simp[zqi] at h
 | .sl _,x,y,h=>by simp[zqi] at h
 | .ptr _,x,y,h=>by simp[zqi] at h
end
end Go.Proofs.YthdblfmolchhpaaGreatDoorPx
set_option linter.all false
set_option maxRecDepth 100000
namespace Go.Proofs.YthdblfmolchhpaaGreatDoorLg
noncomputable section
open Go Go.Lift Go.Proofs.YthdblfmolchhpaaGreatDoorPx
def be8 (n:Nat):List UInt8:=z2e (([56,48,40,32,24,16,8,0]:List Int).map fun j=>IntKind.wrap .u8 (z8w .u64 (IntKind.wrap .u64 ((n:Nat):Int)) j))
theorem z11o (k:Nat)(s:List UInt8):zbl (k+9) s=some (be8 s.length):=by kernel_rfl
def zeh (l:List (List UInt8)):List (List UInt8×Unit):=(l.map fun p=>[(be8 p.length,()),(p,())]).flatten
theorem zhl (p:List UInt8)(l:List (List UInt8)):zeh (p::l)=(be8 p.length,())::(p,())::zeh l:=rfl
theorem z125 (k:Nat) (l:List (List UInt8)) (hl:l.length<1000000) (hk:l.length<k+9):z94 (k+9) l=some (zeh l):=by
 have key:=z65 (step:=fun (v:Int) r=>z5m (k+9) l (((List.length l):Nat):Int) v (fun x7=>(r x7)) (some []) (some [])) (fun v=>0<=v/\v<=(l.length:Int)) (fun v=>l.length - v.toNat) (fun v=>some (zeh (l.drop v.toNat))) (by
  rintro v r ⟨h0,h1⟩ ih;unfold z5m;by_cases hv:v<(l.length:Int)
  . have hn:v.toNat<l.length:=by omega
    have hw:IntKind.wrap .i64 (v+1)=v+1:=z2j ⟨by omega,by omega⟩;have hr:=ih (v+1) ⟨by omega,by omega⟩ (by omega);have hd:l.drop v.toNat=l[v.toNat]::l.drop (v+1).toNat:=by
     rw[show (v+1).toNat=v.toNat+1 by omega,List.getElem_cons_drop]
    have hg:l.getD v.toNat ([]:List UInt8)=l[v.toNat]:=by simp[List.getD,hn]
    rw[zn (by simpa using hv),zn (by simp[inR,h0,hv]),z11o,hg,Option.bind_some,hw];dsimp only;rw[hr,zdx,zdx,hd,zhl]
  . have hn:v.toNat=l.length:=by omega
    rw[z1i (by simpa using hv),hn,List.drop_length];rfl) (k+9) 0 ⟨by omega,by omega⟩ (by simpa using hk)
 exact key
def z26 (l:List (List UInt8)):List UInt8:=((zeh l).map (·.1)).flatten
theorem zsb (a b:List UInt8):z1u (a++b)=z1u a++z1u b:=by simp[z1u]
theorem ofStr_length (a:List UInt8):(z1u a).length=a.length:=by simp[z1u]
theorem zx8 (ys:List (List UInt8×Unit)):∀ a:List UInt8,ys.foldl (fun (v:Unit×(List Int×Unit)) (y:List UInt8×Unit)=>((),(v.2.1++z1u y.1,()))) ((),(z1u a,()))=((),(z1u (a++(ys.map (·.1)).flatten),())):=by
 induction ys with
 | nil=>intro a;simp
 | cons y ys ih =>
   intro a;rw[List.foldl_cons];dsimp only;rw[<- zsb,ih];simp
theorem z15r (k:Nat)(l:List (List UInt8))(hl:l.length<1000000)(hk:l.length<k+9)(hb:(z26 l).length<=70368744177664):z7u (k+9) l=some (z26 l):=by
 unfold z7u zi0 z5n;rw[z125 k l hl hk,Option.bind_some];rw[zky (fun (v:Unit×(List Int×Unit)) (ys:List (List UInt8×Unit))=>v.2.1.length+((ys.map (·.1)).flatten).length<=70368744177664) (fun v y=>((),(v.2.1++z1u y.1,()))) (by
  rintro y ys ⟨u,xs,u'⟩ r hI;cases u;cases u';simp only[List.map_cons,List.flatten_cons,List.length_append] at hI;refine⟨?_,by simp only[List.length_append,ofStr_length];omega⟩;unfold zbn zh;rw[zn (decide_eq_true (by rw[ofStr_length];dsimp only;omega)),Option.bind_some]) _ _ (by simpa[z26] using hb)]
 have hf:=zx8 (zeh l) [];have h0:z1u ([]:List UInt8)=[]:=rfl;rw[h0] at hf;rw[hf];unfold zii;dsimp only;rw[zn (by
  rw[Bool.and_eq_true];refine⟨zsa _,decide_eq_true ?_⟩;rw[ofStr_length];exact Nat.le_trans (show (z26 l).length<=_ from hb) (by decide))]
 rw[Option.bind_some];dsimp only;rw[toStr_ofStr];rfl
end
end Go.Proofs.YthdblfmolchhpaaGreatDoorLg
set_option linter.all false
set_option maxRecDepth 100000
namespace Go.Proofs.YthdblfmolchhpaaGreatDoorLg
noncomputable section
open Go Go.Lift Go.Proofs.YthdblfmolchhpaaGreatDoorPx
def low (n:Int):Nat->Int
 | 0=>n
 | j+1=>IntKind.wrap .i64 (Int.tdiv (low n j) 256)
theorem zuz (p:List UInt8)(l:List (List UInt8)):z26 (p::l)=be8 p.length++(p++z26 l):=by
 simp[z26,zhl]
end
end Go.Proofs.YthdblfmolchhpaaGreatDoorLg
set_option linter.all false
namespace Go.Proofs.YthdblfmolchhpaaGreatDoorPx
noncomputable section
open Go Go.Lift
theorem ztv (x:Int):IntKind.wrap .u8 x=x % 256:=by
 simp only[IntKind.wrap,IntKind.bits,IntKind.signed,Bool.false_and,Bool.false_eq_true,if_false];rfl
theorem zxq {x:Int}(h0:0<=x)(h1:x<256):IntKind.wrap .u8 x=x:=by rw[ztv];omega
theorem z1fo (u:UInt8):u.toNat<256:=u.toNat_lt
theorem z1o {i:Nat}(h:i<9223372036854775807):IntKind.wrap .i64 ((i:Int)+1)=((i+1:Nat):Int):=by
 rw[z2j (by unfold I64;omega)];omega
theorem zei (u:UInt8):BitVec.ofInt 8 ((u.toNat:Nat):Int)=u.toBitVec:=by
 rw[BitVec.ofInt_natCast];apply BitVec.eq_of_toNat_eq;have h1:u.toBitVec.toNat=u.toNat:=rfl;have:=z1fo u;rw[BitVec.toNat_ofNat,h1];omega
theorem zr8 (u:UInt8):IntKind.wrap .u8 ((u.toNat:Nat):Int)=((u.toNat:Nat):Int):=by
 have:=z1fo u;exact zxq (by omega) (by omega)
theorem z16x (a b:UInt8):zr .xor .u8 ((a.toNat:Nat):Int) ((b.toNat:Nat):Int)=(((a ^^^ b).toNat:Nat):Int):=by
 have e:zr .xor .u8 ((a.toNat:Nat):Int) ((b.toNat:Nat):Int)=IntKind.wrap .u8 ((BitVec.ofInt 8 ((a.toNat:Nat):Int) ^^^ BitVec.ofInt 8 ((b.toNat:Nat):Int)).toNat:Int):=rfl;rw[e,zei,zei];have h:(a.toBitVec ^^^ b.toBitVec).toNat=(a ^^^ b).toNat:=rfl;rw[h,zr8]
theorem or_u8 (a b:UInt8):zr .or .u8 ((a.toNat:Nat):Int) ((b.toNat:Nat):Int)=(((a ||| b).toNat:Nat):Int):=by
 have e:zr .or .u8 ((a.toNat:Nat):Int) ((b.toNat:Nat):Int)=IntKind.wrap .u8 ((BitVec.ofInt 8 ((a.toNat:Nat):Int) ||| BitVec.ofInt 8 ((b.toNat:Nat):Int)).toNat:Int):=rfl;rw[e,zei,zei];have h:(a.toBitVec ||| b.toBitVec).toNat=(a ||| b).toNat:=rfl;rw[h,zr8]
theorem zre (a b:List Int):z2e (a++b)=z2e a++z2e b:=by simp[z2e]
theorem zxt (u:UInt8):z2e [((u.toNat:Nat):Int)]=[u]:=by simp[z2e]
theorem toStr_ofStr (s:List UInt8):z2e (z1u s)=s:=by
 simp[z2e,z1u,Function.comp_def]
theorem ofStr_length (s:List UInt8):(z1u s).length=s.length:=by simp[z1u]
theorem zl6 (n:Nat):z2e (List.replicate n (0:Int))=List.replicate n (0:UInt8):=by simp[z2e]
theorem z15o {α:Type}(l:List α)(d:α)(i:Nat)(h:i<l.length):l.getD i d∈l:=by
 rw[List.getD_eq_getElem?_getD,List.getElem?_eq_getElem h];simp
theorem z2c {α:Type}(l:List α)(d:α)(i:Nat)(h:i<l.length):l.drop i=l.getD i d::l.drop (i+1):=by
 rw[List.getD_eq_getElem?_getD,List.getElem?_eq_getElem h,Option.getD_some,List.drop_eq_getElem_cons h]
theorem z4u {α:Type}(l:List α){i:Nat}(h:l.length<=i):l.drop i=[]:=List.drop_of_length_le h
theorem z2z {p:Prop}[Decidable p](h:p):decide p=true:=decide_eq_true h
theorem z9q {p:Prop}[Decidable p](h:¬ p):decide p=false:=decide_eq_false h
theorem zgz {α:Type}(l:List α)(x:α)(i:Nat)(h:i<l.length):(l.set i x).take (i+1)=l.take i++[x]:=by
 rw[List.take_succ_eq_append_getElem (by simpa using h),List.getElem_set_self];congr 1;apply List.ext_getElem?;intro j;rw[List.getElem?_take,List.getElem?_take];split
 . rw[List.getElem?_set_ne (by omega)]
 . rfl
theorem zxr (a b:UInt8):(((a.toNat:Nat):Int)=((b.toNat:Nat):Int)) ↔ a=b:=by
 rw[<- UInt8.toNat_inj];omega
theorem z1a7 {α:Type}(a b:List α):(if ((b.length:Nat):Int)<((a.length:Nat):Int) then ((b.length:Nat):Int) else ((a.length:Nat):Int))=((min a.length b.length:Nat):Int):=by
 split<;>omega
theorem zl1 {α:Type}(l:List α)(n:Nat):cut l 0 n=l.take n:=by simp[cut]
theorem z12h {α:Type}(l:List α)(n:Nat):cut l n l.length=l.drop n:=by simp[cut]
theorem z1cr {α:Type}(l:List α)(n k:Nat):cut l n (n+k)=(l.drop n).take k:=by
 unfold cut;rw[List.drop_take];congr 1;omega
end
end Go.Proofs.YthdblfmolchhpaaGreatDoorPx
set_option linter.all false
namespace Go.Proofs.YthdblfmolchhpaaGreatDoorLg
noncomputable section
open Go Go.Lift Go.Proofs.YthdblfmolchhpaaGreatDoorPx
theorem z10w (N:Nat){s:List UInt8}{m:Nat}(hm:m<=65536)(hs:s.length<=m):zab N s (m:Int)=some (s++List.replicate (m - s.length) 0):=by
 have e:(if (65536:Int)<(m:Int) then (65536:Int) else (m:Int))=(m:Int):=by rw[if_neg (by omega)]
 simp only[zab,e];have hw:IntKind.wrap .i64 ((m:Int) - (((s.length:Nat)):Int))=((m - s.length:Nat):Int):=by rw[z2j (by unfold I64;omega)];omega
 by_cases h2:s.length=m
 . rw[zn (z2z (by omega)),h2];simp
 . rw[z1i (z9q (by omega)),hw,Int.toNat_natCast,zl6,zn (z2z (by omega)),zn (z2z (by rw[List.length_replicate];omega))]
theorem z173 (n k:Nat)(hk:k<=64):z8w .u64 (n:Int) (k:Int)=((n / 2^k:Nat):Int):=by
 have e:min ((k:Int)).toNat (IntKind.bits .u64)=k:=by rw[Int.toNat_natCast];exact Nat.min_eq_left hk
 unfold z8w;rw[e,Int.fdiv_eq_ediv_of_nonneg _ (by exact_mod_cast Nat.zero_le _)]
 norm_cast
def beL (n:Nat):List UInt8:=[0,0,0,0,0,UInt8.ofNat (n / 65536),UInt8.ofNat (n / 256 % 256),UInt8.ofNat (n % 256)]
theorem be_eq (k:Nat){n:Nat}(hn:n<16777216):z3z (k+20) (n:Int) 8=some (beL n):=by
 have h:z3z (k+20) (n:Int) 8=some (z2e [IntKind.wrap .u8 (z8w .u64 n ((56:Nat):Int)),IntKind.wrap .u8 (z8w .u64 n ((48:Nat):Int)),IntKind.wrap .u8 (z8w .u64 n ((40:Nat):Int)),IntKind.wrap .u8 (z8w .u64 n ((32:Nat):Int)),IntKind.wrap .u8 (z8w .u64 n ((24:Nat):Int)),IntKind.wrap .u8 (z8w .u64 n ((16:Nat):Int)),IntKind.wrap .u8 (z8w .u64 n ((8:Nat):Int)),IntKind.wrap .u8 (z8w .u64 n ((0:Nat):Int))]):=by kernel_rfl
 have hx:∀ a b:Nat,a % 256=b->UInt8.ofNat ((((a:Nat):Int) % 256).toNat)=UInt8.ofNat b:=by
  intro a b e;congr 1
 rw[h];simp only[z173 n _ (by decide:0<=64),z173 n _ (by decide:8<=64),z173 n _ (by decide:16<=64),z173 n _ (by decide:24<=64),z173 n _ (by decide:32<=64),z173 n _ (by decide:40<=64),z173 n _ (by decide:48<=64),z173 n _ (by decide:56<=64),z2e,List.map_cons,List.map_nil,ztv,beL];rw[hx _ 0 (by omega:n / 2^56 % 256=0),hx _ 0 (by omega:n / 2^48 % 256=0),hx _ 0 (by omega:n / 2^40 % 256=0),hx _ 0 (by omega:n / 2^32 % 256=0),hx _ 0 (by omega:n / 2^24 % 256=0),hx _ (n / 65536) (by omega:n / 2^16 % 256=n / 65536),hx _ (n / 256 % 256) (by omega:n / 2^8 % 256=n / 256 % 256),hx _ (n % 256) (by omega:n / 2^0 % 256=n % 256)];rfl
def zer (n:Nat):Nat:=(119 - n % 64) % 64
def zh0 (n:Nat):List UInt8:=([128]++List.replicate (zer n) 0)++beL (8*n)
theorem z8v (n:Nat):(zh0 n).length=9+zer n:=by simp[zh0,beL];omega
theorem ztz (n:Nat):(n+(zh0 n).length) % 64=0:=by rw[z8v];unfold zer;omega
theorem z19e (k:Nat){n:Nat}(hn:n<=30000):zax (k+20) (n:Int)=some (zh0 n):=by
 have e1:IntKind.wrap .i64 ((1:Int)+Int.tmod (IntKind.wrap .i64 ((119:Int) - Int.tmod (n:Int) 64)) 64)=((1+zer n:Nat):Int):=by
  rw[Int.tmod_eq_emod_of_nonneg (by omega:0<=(n:Int)),z2j (x:=(119:Int) - _) (by unfold I64;omega),Int.tmod_eq_emod_of_nonneg (by omega),z2j (by unfold I64;omega)];unfold zer;omega
 have hz:zer n<64:=by unfold zer;omega
 have e2:IntKind.wrap .u64 (8*IntKind.wrap .u64 (n:Int))=((8*n:Nat):Int):=by
  show (8*((n:Int) % 18446744073709551616)) % 18446744073709551616=_;omega
 simp only[zax];rw[e1,z10w _ (by omega) (by simp),Option.bind_some,e2,be_eq k (by omega),Option.bind_some];rw[zn (z2z (by simp[beL];omega))];rw[show (1+zer n - [(128:UInt8)].length)=zer n by simp];rfl
end
end Go.Proofs.YthdblfmolchhpaaGreatDoorLg
set_option linter.all false
namespace Go.Proofs.YthdblfmolchhpaaGreatDoorLg
noncomputable section
open Go Go.Lift Go.Proofs.YthdblfmolchhpaaGreatDoorPx
theorem zxl {α:Type}(l:List α)(d:α){n:Nat}(h:l.length=n):l=(List.range n).map fun i=>l.getD i d:=by
 apply List.ext_getElem?;intro i;rw[List.getElem?_map];by_cases hi:i<n
 . rw[List.getElem?_eq_getElem (by omega),List.getElem?_range hi,Option.map_some,List.getD_eq_getElem?_getD,List.getElem?_eq_getElem (by omega)];rfl
 . rw[List.getElem?_eq_none (by omega),List.getElem?_eq_none (by rw[List.length_range];omega)];rfl
set_option maxRecDepth 100000 in
theorem z14k (k:Nat)(g:Nat->Int)(f:Nat->UInt8):(zaz (k+100) ((List.range 8).map g) ((List.range 64).map f)).map List.length=some 8:=by kernel_rfl
set_option maxRecDepth 100000 in
theorem z14g (k:Nat)(g:Nat->Int):(z7j (k+100) ((List.range 8).map g)).isSome=true:=by kernel_rfl
def st (N:Nat)(h:List Int)(b:List UInt8):List Int:=(zaz N h b).getD []
theorem z19j (k:Nat){h:List Int}{b:List UInt8}(hh:h.length=8)(hb:b.length=64):zaz (k+100) h b=some (st (k+100) h b)/\(st (k+100) h b).length=8:=by
 have:=z14k k (fun i=>h.getD i 0) (fun i=>b.getD i 0);rw[<- zxl h 0 hh,<- zxl b 0 hb] at this;unfold st;cases e:zaz (k+100) h b with
 | none=>rw[e] at this;cases this
 | some y=>rw[e] at this;exact⟨rfl,Option.some.inj this⟩
def z5h (N:Nat):Nat->List Int->List UInt8->List Int
 | 0,h,_=>h
 | j+1,h,s=>z5h N j (st N h (s.take 64)) (s.drop 64)
theorem z7h (k:Nat):∀ (j:Nat) {h:List Int} {s:List UInt8},h.length=8->64*j<=s.length->(z5h (k+100) j h s).length=8
 | 0,h,s,hh,_=>hh
 | j+1,h,s,hh,hs=>z7h k j (z19j k hh (by rw[List.length_take];omega)).2 (by rw[List.length_drop];omega)
theorem zav (N:Nat):∀ (i j:Nat) {h:List Int} {a b:List UInt8},a.length=64*i->z5h N (i+j) h (a++b)=z5h N j (z5h N i h a) b
 | 0,j,h,a,b,ha=>by
   have:a=[]:=List.length_eq_zero_iff.1 (by omega);subst this;rw[Nat.zero_add];rfl
 | i+1,j,h,a,b,ha=>by
   rw[show i+1+j=(i+j)+1 by omega];simp only[z5h];rw[List.take_append_of_le_length (by omega),List.drop_append_of_le_length (by omega)];exact zav N i j (by rw[List.length_drop];omega)
theorem zwc (k:Nat){h:List Int}{s:List UInt8}{j:Nat}(hh:h.length=8)(hs:s.length=64*j)(hj:j<k+100)(hj2:j<=100000):z6l (k+100) h s=some (z5h (k+100) j h s):=by
 simp only[z6l,zjh];rw[z65 (I:=fun (v:List Int×Int)=>∃ i:Nat,v.2=((64*i:Nat):Int)/\i<=j/\v.1.length=8) (m:=fun v=>j - v.2.toNat / 64)
  (R:=fun v=>some (z5h (k+100) (j - v.2.toNat / 64) v.1 (s.drop v.2.toNat))) ?_ (k+100) (h,0) ⟨0,rfl,by omega,hh⟩ (by simpa using hj)]
 . simp
 rintro⟨h',v⟩ r ⟨i,e,hi,hl⟩ hr;dsimp only at e hl hr ⊢;subst e;rw[Int.toNat_natCast,show 64*i / 64=i by omega] at hr ⊢;simp only[zd1];by_cases hlt:i<j
 . have hw:IntKind.wrap .i64 (((64*i:Nat):Int)+64)=((64*i+64:Nat):Int):=by rw[z2j (by unfold I64;omega)];omega
   have hb:((s.drop (64*i)).take 64).length=64:=by rw[List.length_take,List.length_drop];omega
   rw[zn (z2z (by omega)),hw,zn (z2z (by omega)),zn (z2z (by omega)),Int.toNat_natCast,Int.toNat_natCast,z1cr,(z19j k hl hb).1,Option.bind_some,hr _ ⟨i+1,by dsimp only;omega,by omega,(z19j k hl hb).2⟩ (by dsimp only;omega)];dsimp only;rw[Int.toNat_natCast,show (64*i+64) / 64=i+1 by omega,show j - i=(j - (i+1))+1 by omega];simp only[z5h,List.drop_drop]
 . rw[z1i (z9q (by omega)),show j - i=0 by omega];rfl
abbrev first:List Int:=[1779033703,3144134277,1013904242,2773480762,1359893119,2600822924,528734635,1541459225]
abbrev Hsh:Type:=Bool×(List Int×(List UInt8×(Int×Unit)))
def total (n:Nat):Nat:=(n+(zh0 n).length) / 64
def z100 (N:Nat)(h:List Int):List UInt8:=(z7j N h).getD []
theorem zzz (k:Nat){h:List Int}(hh:h.length=8):z7j (k+100) h=some (z100 (k+100) h):=by
 have:=z14g k (fun i=>h.getD i 0);rw[<- zxl h 0 hh] at this;unfold z100;cases e:z7j (k+100) h with
 | none=>rw[e] at this;cases this
 | some y=>rfl
def z13d (N:Nat)(s:List UInt8):List UInt8:=z100 N (z5h N (total s.length) first (s++zh0 s.length))
def z11k (N:Nat)(all:List UInt8)(h:Hsh):Prop:=∃ j:Nat,64*j<=all.length/\h=(true,z5h N j first (all.take (64*j)),all.drop (64*j),(all.length:Int),())
theorem zx0 (N:Nat):z11k N [] (true,first,[],0,()):=⟨0,by simp,rfl⟩
theorem z13a (k:Nat){all s:List UInt8}{h:Hsh}(hk:600<=k)(hm:z11k (k+100) all h)(hl:all.length+s.length<=30000):∃ h',z3o (k+100) h s=some ((),h',())/\z11k (k+100) (all++s) h':=by
 obtain⟨j,hj,rfl⟩:=hm;have hd:all.drop (64*j)++s=(all++s).drop (64*j):=by rw[List.drop_append_of_le_length hj]
 simp only[z3o,z8a];rw[Bool.not_true,cond_false,zn (z2z (by rw[List.length_drop];omega)),hd];generalize hq:((all++s).drop (64*j)).length / 64=q;have hL:((all++s).drop (64*j)).length=all.length+s.length - 64*j:=by rw[List.length_drop,List.length_append]
 have hw:IntKind.wrap .i64 ((((all++s).drop (64*j)).length:Int) - Int.tmod (((all++s).drop (64*j)).length:Int) 64)=((64*q:Nat):Int):=by
  rw[Int.tmod_eq_emod_of_nonneg (by omega),z2j (by unfold I64;omega)];omega
 have hq2:64*q<=all.length+s.length - 64*j:=by omega
 have hsl:(z5h (k+100) j first (all.take (64*j))).length=8:=z7h k j rfl (by rw[List.length_take];omega);rw[hw,zn (z2z (by omega)),Int.toNat_natCast,zl1,zwc k hsl (by rw[List.length_take];omega) (by omega:q<k+100) (by omega),Option.bind_some,zn (z2z (by omega)),z12h];refine⟨_,rfl,j+q,by rw[List.length_append];omega,?_⟩;have e1:(all++s).take (64*(j+q))=all.take (64*j)++((all++s).drop (64*j)).take (64*q):=by
  rw[Nat.mul_add,List.take_add,List.take_append_of_le_length hj]
 rw[e1,zav _ j q (by rw[List.length_take];omega),List.drop_drop,List.length_append,show 64*(j+q)=64*j+64*q by omega];have e2:IntKind.wrap .i64 ((all.length:Int)+(s.length:Int))=((all.length+s.length:Nat):Int):=by rw[z2j (by unfold I64;omega)];omega
 rw[e2]
theorem zv5 (k:Nat){all:List UInt8}{j:Nat}(hk:600<=k)(hj:64*j<=all.length)(hl:all.length<=30000) :
 z6l (k+100) (z5h (k+100) j first (all.take (64*j))) (all.drop (64*j)++zh0 all.length)=some (z5h (k+100) (total all.length) first (all++zh0 all.length))/\(z5h (k+100) (total all.length) first (all++zh0 all.length)).length=8:=by
 have hwh:=ztz all.length;have htl:=z8v all.length;have hz:zer all.length<64:=by unfold zer;omega
 have htot:64*total all.length=all.length+(zh0 all.length).length:=by unfold total;omega
 have hsl:(z5h (k+100) j first (all.take (64*j))).length=8:=z7h k j rfl (by rw[List.length_take];omega);have hjt:j<=total all.length:=by omega
 have e:z5h (k+100) (total all.length) first (all++zh0 all.length)=z5h (k+100) (total all.length - j) (z5h (k+100) j first (all.take (64*j))) (all.drop (64*j)++zh0 all.length):=by
  have:=zav (k+100) j (total all.length - j) (h:=first) (a:=all.take (64*j)) (b:=all.drop (64*j)++zh0 all.length) (by rw[List.length_take];omega);rw[<- List.append_assoc,List.take_append_drop,show j+(total all.length - j)=total all.length by omega] at this;exact this
 constructor
 . rw[e,zwc k (j:=total all.length - j) hsl (by rw[List.length_append,List.length_drop];omega) (by omega) (by omega)]
 . exact z7h k _ rfl (by rw[List.length_append];omega)
theorem z1gk {k n:Nat}(hn:n<=30000):zax (k+100) (n:Int)=some (zh0 n):=z19e (k+80) hn
theorem z19h (k:Nat){all:List UInt8}{h:Hsh}(hk:600<=k)(hm:z11k (k+100) all h)(hl:all.length<=30000):z5i (k+100) h=some (z13d (k+100) all,h,()):=by
 obtain⟨j,hj,rfl⟩:=hm;have hz:zer all.length<64:=by unfold zer;omega
 obtain⟨h1,h2⟩:=zv5 k hk hj hl;simp only[z5i,z6y,z6x];rw[Bool.not_true,cond_false,z1gk hl,Option.bind_some,zn (z2z (by rw[z8v,List.length_drop];omega)),h1,Option.bind_some,zzz k h2,Option.bind_some];rfl
theorem z1h3 (k:Nat){s:List UInt8}(hk:600<=k)(hl:s.length<=30000):zfz (k+100) s=some (z13d (k+100) s):=by
 obtain⟨h',h1,h2⟩:=z13a k (s:=s) hk (zx0 _) (by simpa using hl);rw[List.nil_append] at h2;simp only[zfz];rw[h1,Option.bind_some,z19h k hk h2 hl];rfl
theorem z19g (k:Nat){all:List UInt8}{h:Hsh}(hk:600<=k)(hm:z11k (k+100) all h)(hl:all.length<=30000):z57 (k+100) h=some (z13d (k+100) all,h,()):=by
 obtain⟨j,hj,rfl⟩:=hm;have hz:zer all.length<64:=by unfold zer;omega
 obtain⟨h1,h2⟩:=zv5 k hk hj hl;simp only[z57,z87,z86];rw[Bool.not_true,cond_false,z1gk hl,Option.bind_some,zn (z2z (by rw[z8v,List.length_drop];omega)),h1,Option.bind_some,zzz k h2,Option.bind_some];rfl
end
end Go.Proofs.YthdblfmolchhpaaGreatDoorLg
set_option linter.all false
namespace Go.Proofs.YthdblfmolchhpaaGreatDoorLg
noncomputable section
open Go Go.Lift Go.Proofs.YthdblfmolchhpaaGreatDoorPx
def be4 (x:Int):List UInt8:=z2e [IntKind.wrap .u8 (z8w .u64 (IntKind.wrap .u64 x) 24),IntKind.wrap .u8 (z8w .u64 (IntKind.wrap .u64 x) 16),IntKind.wrap .u8 (z8w .u64 (IntKind.wrap .u64 x) 8),IntKind.wrap .u8 (z8w .u64 (IntKind.wrap .u64 x) 0)]
set_option maxRecDepth 100000 in
theorem tellA (k:Nat)(g:Nat->Int):z7j (k+100) ((List.range 8).map g)=some (((((((([]++be4 (g 0))++be4 (g 1))++be4 (g 2))++be4 (g 3))++be4 (g 4))++be4 (g 5))++be4 (g 6))++be4 (g 7)):=by kernel_rfl
end
end Go.Proofs.YthdblfmolchhpaaGreatDoorLg
set_option linter.all false
namespace Go.Proofs.YthdblfmolchhpaaGreatDoorPx
noncomputable section
open Go Go.Lift
def orX:List UInt8->List UInt8->UInt8
 | x::xs,y::ys=>(x ^^^ y) ||| orX xs ys
 | _,_=>0
theorem or_zero (x y:UInt8):x ||| y=0 ↔ x=0/\y=0:=by
 constructor
 . intro h;have h':x.toNat ||| y.toNat=0:=by rw[<- UInt8.toNat_or,h];rfl
   have:=Nat.or_eq_zero_iff.1 h';exact⟨UInt8.toNat_inj.1 this.1,UInt8.toNat_inj.1 this.2⟩
 . rintro⟨rfl,rfl⟩;rfl
theorem xor_zero (x y:UInt8):x ^^^ y=0 ↔ x=y:=by
 constructor
 . intro h;have e:y=x ^^^ (x ^^^ y):=by rw[<- UInt8.xor_assoc,UInt8.xor_self,UInt8.zero_xor]
   rw[h,UInt8.xor_zero] at e;exact e.symm
 . rintro rfl;exact UInt8.xor_self
theorem zwv:∀ a b:List UInt8,a.length=b.length->(orX a b=0 ↔ a=b)
 | [],[],_=>by simp[orX]
 | x::xs,y::ys,h=>by
   simp only[orX,or_zero,xor_zero,zwv xs ys (by simpa using h),List.cons.injEq]
 | [],_::_,h=>by simp at h
 | _::_,[],h=>by simp at h
theorem z110 (x y z:UInt8):x ||| y ||| z=x ||| (y ||| z):=UInt8.or_assoc _ _ _
def zzo (a b:List UInt8):List UInt8:=List.zipWith (fun x y=>x ^^^ y) a b
theorem zao (a b:List UInt8):(zzo a b).length=min a.length b.length:=by simp[zzo]
end
end Go.Proofs.YthdblfmolchhpaaGreatDoorPx
set_option linter.all false
namespace Go.Proofs.YthdblfmolchhpaaGreatDoorLg
noncomputable section
open Go Go.Lift Go.Proofs.YthdblfmolchhpaaGreatDoorPx
theorem z15t (N:Nat){a b:List UInt8}(ha:a.length<=9223372036854775806)(hN:a.length<N):z8k N a b=some (a == b):=by
 simp only[z8k,zfd];by_cases hl:a.length=b.length
 . rw[z1i (by simp[hl]),z65 (I:=fun (v:Int×Int)=>(∃ d:UInt8,v.1=((d.toNat:Nat):Int))/\0<=v.2/\v.2<=((a.length:Nat):Int)) (m:=fun (v:Int×Int)=>a.length - v.2.toNat)
    (R:=fun (v:Int×Int)=>some ((UInt8.ofNat v.1.toNat ||| orX (a.drop v.2.toNat) (b.drop v.2.toNat)) == 0)) ?_ N (0,0) ⟨⟨0,rfl⟩,by omega,by dsimp only;omega⟩ (by simpa using hN)]
   . simp only[Int.toNat_zero,List.drop_zero];have:(UInt8.ofNat 0 ||| orX a b)=orX a b:=UInt8.zero_or;rw[this];congr 1;rw[Bool.eq_iff_iff,beq_iff_eq,zwv a b hl,beq_iff_eq]
   rintro⟨x,v⟩ r ⟨⟨d,hd⟩,h0,h1⟩ hr;dsimp only at *;subst hd;obtain⟨i,rfl⟩:=Int.eq_ofNat_of_zero_le h0;simp only[z9n,Int.toNat_natCast,UInt8.ofNat_toNat];by_cases hlt:i<a.length
   . have hib:i<b.length:=by omega
     rw[zn (z2z (by omega)),zn (z28 hlt),zn (z28 hib),z16x,or_u8,z1o (by omega),hr _ ⟨⟨_,rfl⟩,by omega,by omega⟩ (by dsimp only;omega),z2c a 0 i hlt,z2c b 0 i hib];simp only[Int.toNat_natCast,UInt8.ofNat_toNat,orX,z110]
   . have hi:i=a.length:=by omega
     rw[z1i (z9q (by omega)),z4u a (by omega)];have:orX [] (b.drop i)=0:=by unfold orX;rfl
     rw[this,UInt8.or_zero];congr 1;rw[Bool.eq_iff_iff,beq_iff_eq,beq_iff_eq,show (0:Int)=(((0:UInt8).toNat:Nat):Int) from rfl,zxr]
 . rw[zn (by simp;omega)];have:¬ a=b:=fun e=>hl (by rw[e])
   simp[this]
theorem z16y (N:Nat){a b:List UInt8}(ha:a.length<=281474976710656)(hN:a.length<N):zaa N a b=some (zzo a b):=by
 simp only[zaa,zjr,z1a7];rw[zn (z2z ⟨by omega,by omega,by omega,by omega⟩)];simp only[Int.toNat_natCast,List.length_replicate];rw[z65 (I:=fun (v:List Int×Int)=>v.1.length=min a.length b.length/\0<=v.2/\v.2<=((min a.length b.length:Nat):Int)) (m:=fun (v:List Int×Int)=>a.length - v.2.toNat)
  (R:=fun (v:List Int×Int)=>some (z2e (v.1.take v.2.toNat)++zzo (a.drop v.2.toNat) (b.drop v.2.toNat))) ?_ N (List.replicate (min a.length b.length) 0,0) ⟨by simp,by omega,by dsimp only;omega⟩ (by simpa using hN)]
 . simp[z2e]
 rintro⟨out,v⟩ r ⟨hl,h0,h1⟩ hr;dsimp only at *;obtain⟨i,rfl⟩:=Int.eq_ofNat_of_zero_le h0;simp only[zdd,Int.toNat_natCast];by_cases hlt:i<min a.length b.length
 . have hia:i<a.length:=by omega
   have hib:i<b.length:=by omega
   have hio:i<out.length:=by omega
   rw[zn (z2z (by omega)),zn (z28 hia),zn (z28 hib),zn (z28 hio),zn (z2z hio),z16x,z1o (by omega),hr _ ⟨by simpa using hl,by omega,by omega⟩ (by dsimp only;omega),z2c a 0 i hia,z2c b 0 i hib];simp only[Int.toNat_natCast,zgz _ _ _ hio,zre,zxt,List.append_assoc];rfl
 . have hi:i=min a.length b.length:=by omega
   rw[z1i (z9q (by omega)),List.take_of_length_le (by omega)];have:zzo (a.drop i) (b.drop i)=[]:=by
    apply List.length_eq_zero_iff.1;rw[zao,List.length_drop,List.length_drop];omega
   rw[this,List.append_nil]
end
end Go.Proofs.YthdblfmolchhpaaGreatDoorLg
set_option linter.all false
set_option maxRecDepth 100000
namespace Go.Proofs.YthdblfmolchhpaaGreatDoorLg
noncomputable section
open Go Go.Lift Go.Proofs.YthdblfmolchhpaaGreatDoorPx
theorem z14h (k:Nat){h:List Int}(hh:h.length=8):(z100 (k+100) h).length=32:=by
 unfold z100;rw[zxl h 0 hh,tellA];simp only[Option.getD_some,List.length_append,List.length_nil];rfl
theorem zau (k:Nat){s:List UInt8}(hk:600<=k)(hl:s.length<=30000):(z13d (k+100) s).length=32:=by
 obtain⟨_,h⟩:=zv5 k (all:=s) (j:=0) hk (by omega) hl;exact z14h k h
def z17d (N:Nat)(key:List UInt8):List UInt8:=if 64<key.length then z13d N key else key
def z11t (N:Nat)(key:List UInt8):List UInt8:=z17d N key++List.replicate (64 - (z17d N key).length) 0
def z11i (N:Nat)(key:List UInt8)(b:UInt8):List UInt8:=zzo (z11t N key) (List.replicate 64 b)
def zsn (N:Nat)(key text:List UInt8):List UInt8:=z11i N key 54++text
def zwu (N:Nat)(key text:List UInt8):List UInt8:=z11i N key 92++z13d N (zsn N key text)
def z102 (N:Nat)(key text:List UInt8):List UInt8:=z13d N (zwu N key text)
theorem z11u (k:Nat){key:List UInt8}(hk:600<=k)(hl:key.length<=30000):(z17d (k+100) key).length<=64:=by
 unfold z17d;by_cases h:64<key.length
 . rw[if_pos h,zau k hk hl];omega
 . rw[if_neg h];omega
theorem zjz (k:Nat){key:List UInt8}(hk:600<=k)(hl:key.length<=30000):(z11t (k+100) key).length=64:=by
 have:=z11u k hk hl;unfold z11t;rw[List.length_append,List.length_replicate];omega
theorem zjv (k:Nat){key:List UInt8}(b:UInt8)(hk:600<=k)(hl:key.length<=30000):(z11i (k+100) key b).length=64:=by
 unfold z11i;rw[zao,zjz k hk hl,List.length_replicate];rfl
theorem zhx (k:Nat){key text:List UInt8}(hk:600<=k)(hl:key.length<=30000):(zsn (k+100) key text).length=64+text.length:=by
 unfold zsn;rw[List.length_append,zjv k 54 hk hl]
theorem zq1 (k:Nat){key text:List UInt8}(hk:600<=k)(hl:key.length<=30000)(ht:text.length<=29900):(zwu (k+100) key text).length=96:=by
 unfold zwu;rw[List.length_append,zjv k 92 hk hl,zau k hk (by rw[zhx k hk hl];omega)]
theorem z3n (k:Nat){key text:List UInt8}(hk:600<=k)(hl:key.length<=30000)(ht:text.length<=29900):(z102 (k+100) key text).length=32 :=
 zau k hk (by rw[zq1 k hk hl ht];omega)
theorem z1h6 (b:UInt8):zku ([b],((64:Int),()))=some (List.replicate 64 b):=by kernel_rfl
theorem zx3 (k:Nat){key text:List UInt8}(b:UInt8)(hk:600<=k)(hl:key.length=64)(ht:text.length<=29900) :
 z7t (k+100) key [b] text=some (z13d (k+100) (zzo key (List.replicate 64 b)++text)):=by
 have hx:(zzo key (List.replicate 64 b)).length=64:=by rw[zao,hl,List.length_replicate];rfl
 unfold z7t;rw[z1h6,Option.bind_some,z16y _ (by omega) (by omega),Option.bind_some];obtain⟨h1,e1,m1⟩:=z13a k (s:=zzo key (List.replicate 64 b)) hk (zx0 _) (by rw[hx];simp);rw[List.nil_append] at m1;rw[e1,Option.bind_some];dsimp only;obtain⟨h2,e2,m2⟩:=z13a k (s:=text) hk m1 (by rw[hx];omega);rw[e2,Option.bind_some];dsimp only;rw[z19g k hk m2 (by rw[List.length_append,hx];omega),Option.bind_some]
theorem z170 (k:Nat){key text:List UInt8}(hk:600<=k)(hl:key.length<=30000)(ht:text.length<=29900) :
 zej (k+100) key text=some (z102 (k+100) key text):=by
 have h1:∀ k0:List UInt8->Option (List UInt8),zbm (k+100) key text k0=k0 (z17d (k+100) key):=by
  intro k0;unfold zbm z17d;by_cases h:64<key.length
  . rw[zn (z2z (by omega)),z1h3 k hk hl,Option.bind_some,if_pos h]
  . rw[z1i (z9q (by omega)),if_neg h]
 unfold zej;rw[h1,show (64:Int)=((64:Nat):Int) from rfl,z10w _ (by omega) (z11u k hk hl),Option.bind_some];have h64:=zjz k hk hl;unfold z11t at h64;rw[zx3 k 54 hk h64 ht,Option.bind_some,zx3 k 92 hk h64 (by
  have:=zhx k (text:=text) hk hl;unfold zsn z11i z11t at this;rw[zau k hk (by rw[this];omega)];omega),Option.bind_some]
 rfl
end
end Go.Proofs.YthdblfmolchhpaaGreatDoorLg
set_option linter.all false
set_option maxRecDepth 100000
namespace Go.Proofs.YthdblfmolchhpaaGreatDoorLg
noncomputable section
open Go Go.Lift Go.Proofs.YthdblfmolchhpaaGreatDoorPx
theorem zpb (n:Nat):(be8 n).length=8:=rfl
end
end Go.Proofs.YthdblfmolchhpaaGreatDoorLg
set_option linter.all false
set_option maxRecDepth 100000
namespace Go.Proofs.YthdblfmolchhpaaGreatDoorLg
noncomputable section
open Go Go.Lift Go.Proofs.YthdblfmolchhpaaGreatDoorPx
theorem zu8 (N:Nat) {a b:List UInt8} (ha:a.length<=100000) (hN:a.length<N):z8m N a b=some (decide (a.length=32) && (a == b)):=by
 unfold z8m;by_cases h1:a.length=32
 . rw[zn (by simp[h1])];by_cases h2:b.length=32
   . rw[zn (by simp[h2]),z15t _ (by omega) hN,Option.bind_some,decide_eq_true h1,Bool.true_and]
   . have hne:(a == b)=false:=by
      rw[beq_eq_false_iff_ne];intro e;subst e;exact h2 h1
     rw[z1i (by rw[beq_eq_false_iff_ne];omega),hne,Bool.and_false]
 . rw[z1i (by rw[beq_eq_false_iff_ne];omega),decide_eq_false h1,Bool.false_and]
theorem z1n2 (k:Nat){l:List (List UInt8)}(hl:l.length<=50)(hb:(z26 l).length<=70368744177664):z7u (k+100) l=some (z26 l) :=
 z15r (k+91) l (by omega) (by omega) hb
theorem z2f:∀ l:List (List UInt8),(z26 l).length=8*l.length+l.flatten.length
 | []=>rfl
 | p::l=>by
   rw[zuz,List.length_append,List.length_append,zpb,z2f l,List.flatten_cons,List.length_append,List.length_cons];omega
theorem zb6 (k:Nat){key:List UInt8}{l:List (List UInt8)}(hk:600<=k)(hl:key.length<=30000)(h1:l.length<=50)(h2:(z26 l).length<=29900) :
 z21 (k+100) key l=some (z102 (k+100) key (z26 l)):=by
 unfold z21;rw[z1n2 k h1 (by omega),Option.bind_some,z170 k hk hl h2];rfl
end
end Go.Proofs.YthdblfmolchhpaaGreatDoorLg
set_option linter.all false
set_option maxRecDepth 100000
namespace Go.Proofs.YthdblfmolchhpaaGreatDoorLg
noncomputable section
open Go Go.Lift Go.Proofs.YthdblfmolchhpaaGreatDoorPx
theorem zyi (k:Nat)(n:Int):z3w (k+9) n=some (z2e (([56,48,40,32,24,16,8,0]:List Int).map fun j=>IntKind.wrap .u8 (z8w .i64 n j))):=by kernel_rfl
theorem z118 (k:Nat){n:Nat}(hn:n<9223372036854775808):z3w (k+9) (n:Int)=some (be8 n):=by
 rw[zyi];have h1:IntKind.wrap .u64 ((n:Nat):Int)=(n:Int):=by
  simp[IntKind.wrap,IntKind.signed,IntKind.bits];omega
 have h2:∀ j,z8w .i64 (n:Int) j=z8w .u64 (n:Int) j:=fun j=>rfl
 unfold be8;simp only[h1,h2]
def z1h5 (nonce:List UInt8)(i:Nat):List (List UInt8):=[[115,116,114,101,97,109],nonce,be8 i]
def zka (N:Nat)(key nonce:List UInt8)(i:Nat):List UInt8:=z102 N key (z26 (z1h5 nonce i))
theorem zln (nonce:List UInt8)(i:Nat):(z26 (z1h5 nonce i)).length=38+nonce.length:=by
 rw[z2f];simp[z1h5,zpb];omega
theorem zr1 (k:Nat){key nonce:List UInt8}(i:Nat)(hk:600<=k)(hl:key.length<=30000)(hn:nonce.length<=1000):(zka (k+100) key nonce i).length=32 :=
 z3n k hk hl (by rw[zln];omega)
theorem z168 (k:Nat){key nonce:List UInt8}{i:Nat}(hk:600<=k)(hl:key.length<=30000)(hn:nonce.length<=1000)(hi:i<9223372036854775808):z6i (k+100) key nonce (i:Int)=some (zka (k+100) key nonce i):=by
 unfold z6i;rw[z1i (z9q (by omega)),show z3w (k+100) (i:Int)=some (be8 i) from z118 (k+91) hi,Option.bind_some];rw[show z21 (k+100) key ([([(115:UInt8),(116:UInt8),(114:UInt8),(101:UInt8),(97:UInt8),(109:UInt8)]:List UInt8),nonce,be8 i]:List (List UInt8))=_ from zb6 k (l:=z1h5 nonce i) hk hl (by simp[z1h5]) (by rw[zln];omega)];rfl
def zp5 (N:Nat)(key nonce:List UInt8)(m:Nat):List UInt8:=((List.range m).map (zka N key nonce)).flatten
def zxw (N:Nat)(key nonce:List UInt8)(n:Nat):List UInt8:=(zp5 N key nonce ((n+31) / 32)).take n
theorem zv0 (N:Nat)(key nonce:List UInt8)(m:Nat):zp5 N key nonce (m+1)=zp5 N key nonce m++zka N key nonce m:=by
 unfold zp5;rw[List.range_succ,List.map_append,List.flatten_append];simp
theorem zbq (k:Nat){key nonce:List UInt8}(hk:600<=k)(hl:key.length<=30000)(hn:nonce.length<=1000):∀ m,(zp5 (k+100) key nonce m).length=32*m
 | 0=>rfl
 | m+1=>by rw[zv0,List.length_append,zbq k hk hl hn m,zr1 k m hk hl hn];omega
theorem zrj (k:Nat){key nonce:List UInt8}(n:Nat)(hk:600<=k)(hl:key.length<=30000)(hn:nonce.length<=1000):(zxw (k+100) key nonce n).length=n:=by
 unfold zxw;rw[List.length_take,zbq k hk hl hn];omega
theorem z12z (k:Nat){key nonce:List UInt8}{n:Nat}(hk:600<=k)(hl:key.length<=30000)(hn:nonce.length<=1000)(h:n<=4096):z4q (k+100) (n:Int) key nonce=some ((List.range ((n+31) / 32)).map fun i=>(zka (k+100) key nonce i,())):=by
 have hq:IntKind.wrap .i64 (Int.tdiv (IntKind.wrap .i64 ((IntKind.wrap .i64 ((n:Int)+32)) - 1)) 32)=(((n+31) / 32:Nat):Int):=by
  rw[z2j (x:=(n:Int)+32) (by unfold I64;omega),z2j (x:=(n:Int)+32 - 1) (by unfold I64;omega),show (n:Int)+32 - 1=((n+31:Nat):Int) by omega];rw[show Int.tdiv ((n+31:Nat):Int) 32=(((n+31) / 32:Nat):Int) from rfl,z2j (by unfold I64;omega)]
 unfold z4q za1;rw[hq];generalize hm:(n+31) / 32=m;have hm2:m<=200:=by omega
 have main:=z65 (step:=fun (v:Int) r=>z3x (k+100) key nonce (m:Int) v (fun x10=>r x10) (some []) (some [])) (I:=fun v=>∃ i:Nat,i<=m/\v=(i:Int)) (m:=fun v=>m - v.toNat) (R:=fun v=>some ((List.range' v.toNat (m - v.toNat)).map fun i=>(zka (k+100) key nonce i,()))) ?_ (k+100) 0 ⟨0,by omega,rfl⟩ (by first|omega|(dsimp only;omega))
 . refine main.trans ?_;try dsimp only
   rw[show (0:Int).toNat=0 from rfl,Nat.sub_zero,List.range_eq_range']
 rintro v r ⟨i,hi,rfl⟩ hr;try dsimp only
 rw[Int.toNat_natCast] at hr ⊢;unfold z3x;by_cases hlt:i<m
 . rw[zn (z2z (by omega)),z168 k hk hl hn (by omega),Option.bind_some,z1o (by omega)];have h2:=hr ((i+1:Nat):Int) ⟨i+1,by omega,rfl⟩ (by first|omega|(dsimp only;omega));try dsimp only
   rw[h2,zdx,Int.toNat_natCast,show m - i=(m - (i+1))+1 by omega,List.range'_succ];rfl
 . rw[z1i (z9q (by omega)),show m - i=0 by omega];rfl
theorem foldB {N:Nat}(ys:List (List UInt8×Unit))(k0:Unit×(List Int×Unit)->Option (List UInt8))(h:((ys.map (·.1)).flatten).length<=70368744177664) :
 zht (fun (y:(List UInt8×Unit)) (v:(Unit×((List Int)×Unit))) r=>(zh N v y.1).bind fun y1=>r y1.2.1) k0 ys ((),([],()))=k0 ((),(z1u (ys.map (·.1)).flatten,())):=by
 rw[zky (fun (v:Unit×(List Int×Unit)) (ys:List (List UInt8×Unit))=>v.2.1.length+((ys.map (·.1)).flatten).length<=70368744177664) (fun v y=>((),(v.2.1++z1u y.1,()))) (by
  rintro y ys ⟨u,xs,u'⟩ r hI;cases u;cases u';simp only[List.map_cons,List.flatten_cons,List.length_append] at hI;refine⟨?_,by simp only[List.length_append,Go.Proofs.YthdblfmolchhpaaGreatDoorPx.ofStr_length];omega⟩;unfold zh;rw[zn (decide_eq_true (by rw[Go.Proofs.YthdblfmolchhpaaGreatDoorPx.ofStr_length];dsimp only;omega)),Option.bind_some]) _ _ (by simpa using h)]
 have hf:=zx8 ys [];have h0:z1u ([]:List UInt8)=[]:=rfl;rw[h0] at hf;rw[hf];rfl
theorem z1h4 (s:List UInt8)(h:s.length<=70368744177664):zii (((),(z1u s,())),())=some (s,(((),((),())),())):=by
 unfold zii;dsimp only;rw[zn (by
  rw[Bool.and_eq_true];refine⟨zsa _,decide_eq_true ?_⟩;rw[Go.Proofs.YthdblfmolchhpaaGreatDoorPx.ofStr_length];exact Nat.le_trans h (by decide))]
 rw[Go.Proofs.YthdblfmolchhpaaGreatDoorPx.toStr_ofStr]
theorem z19d (k:Nat){key nonce:List UInt8}{n:Nat}(hk:600<=k)(hl:key.length<=30000)(hn:nonce.length<=1000)(h:n<=4096):z85 (k+100) key nonce (n:Int)=some (zxw (k+100) key nonce n):=by
 unfold z85;by_cases h0:n<1
 . rw[zn (z2z (by omega)),show n=0 by omega];rfl
 rw[z1i (z9q (by omega)),if_neg (by omega)];unfold zf2 z4x z9g;rw[z12z k hk hl hn h,Option.bind_some];have hfl:=zbq k (key:=key) (nonce:=nonce) hk hl hn ((n+31) / 32);have hmap:((List.range ((n+31) / 32)).map fun i=>(zka (k+100) key nonce i,())).map (·.1)=(List.range ((n+31) / 32)).map (zka (k+100) key nonce):=by
  rw[List.map_map];rfl
 unfold zp5 at hfl;rw[foldB (N:=k+100) _ _ (by rw[hmap,hfl];omega),hmap];dsimp only;rw[z1h4 _ (by rw[hfl];omega),Option.bind_some];rw[zn (z2z (by rw[hfl];omega)),Int.toNat_natCast,zl1];rfl
theorem z1j3 (k:Nat){key nonce text:List UInt8}(hk:600<=k)(hl:key.length<=30000)(hn:nonce.length<=1000)(h:text.length<=4096)(hkt:text.length<k):za2 (k+100) key nonce text=some (zzo text (zxw (k+100) key nonce text.length)):=by
 unfold za2;rw[z1i (z9q (by omega)),z19d k hk hl hn h,Option.bind_some,z16y _ (by omega) (by omega)];rfl
end
end Go.Proofs.YthdblfmolchhpaaGreatDoorLg
set_option linter.all false
set_option maxRecDepth 100000
namespace Go.Proofs.YthdblfmolchhpaaGreatDoorLg
noncomputable section
open Go Go.Lift Go.Proofs.YthdblfmolchhpaaGreatDoorPx
def z9y (N:Nat)(key s:List UInt8):List (List UInt8):=[zsn N key s,zwu N key s]
def z1cm (N:Nat)(key:List UInt8):List UInt8:=z102 N key (z26 [[104,105,100,101]])
def tagK (N:Nat)(key:List UInt8):List UInt8:=z102 N key (z26 [[116,97,103]])
def z180 (N:Nat)(key body:List UInt8):List UInt8:=z102 N (tagK N key) body
def z122 (N:Nat)(key nonce text:List UInt8):List UInt8:=zzo text (zxw N (z1cm N key) nonce text.length)
theorem zso:(z26 [[104,105,100,101]]).length=12:=by rw[z2f];rfl
theorem zwa:(z26 [[116,97,103]]).length=11:=by rw[z2f];rfl
theorem zk3 (k:Nat){key:List UInt8}(hk:600<=k)(hl:key.length<=30000):(z1cm (k+100) key).length=32:=z3n k hk hl (by rw[zso];omega)
theorem zu0 (k:Nat){key:List UInt8}(hk:600<=k)(hl:key.length<=30000):(tagK (k+100) key).length=32:=z3n k hk hl (by rw[zwa];omega)
theorem zqe (k:Nat){key nonce text:List UInt8}(hk:600<=k)(hl:key.length<=30000)(hn:nonce.length<=1000):(z122 (k+100) key nonce text).length=text.length:=by
 unfold z122;rw[zao,zrj k _ hk (by rw[zk3 k hk hl];omega) hn,Nat.min_self]
theorem zyw (k:Nat){key:List UInt8}(hk:600<=k)(hl:key.length<=30000):z8s (k+100) key=some (z1cm (k+100) key):=by
 unfold z8s;rw[zb6 k hk hl (by simp) (by rw[zso];omega)];rfl
theorem z12s (k:Nat){key body:List UInt8}(hk:600<=k)(hl:key.length<=30000)(hb:body.length<=29900):zmy (k+100) key body=some (z180 (k+100) key body):=by
 unfold zmy;rw[zb6 k hk hl (by simp) (by rw[zwa];omega),Option.bind_some,z170 k hk (by have:=zu0 k hk hl;unfold tagK at this;rw[this];omega) hb];rfl
def z17x (N:Nat)(key s:List UInt8):Bool:=s.drop (s.length - 32) == z180 N key (s.take (s.length - 32))
def z152 (N:Nat)(key s:List UInt8):List UInt8:=z122 N key (s.take 16) ((s.take (s.length - 32)).drop 16)
theorem wlen {s:List UInt8}(h:48<=s.length)(h2:s.length<=5000):IntKind.wrap .i64 ((s.length:Int) - 32)=((s.length - 32:Nat):Int):=by
 rw[z2j (by unfold I64;omega)];omega
theorem z15w (k:Nat){key s:List UInt8}(hk:4400<=k)(hl:key.length<=30000)(h1:48<=s.length)(h2:s.length<=4144):z4w (k+100) key s=some (cond (z17x (k+100) key s) 0 8):=by
 have hd:(s.drop (s.length - 32)).length=32:=by rw[List.length_drop];omega
 unfold z4w;rw[z1i (z9q (by omega)),z1i (z9q (by omega)),wlen h1 (by omega),zn (z2z (by omega)),zn (z2z (by omega)),Int.toNat_natCast,zl1,z12s k (by omega) hl (by rw[List.length_take];omega),Option.bind_some,z12h,zu8 _ (by omega) (by omega),Option.bind_some,hd];show cond (!(decide ((32:Nat)=32) && z17x (k+100) key s)) (some 8) (some 0)=_;cases z17x (k+100) key s<;>rfl
theorem z113 (k:Nat){key s:List UInt8}(hk:4400<=k)(hl:key.length<=30000)(h1:48<=s.length)(h2:s.length<=4144):z7p (k+100) key s=some (cond (z17x (k+100) key s) (z152 (k+100) key s,0,()) ([],8,())):=by
 unfold z7p;rw[z15w k hk hl h1 (by omega),Option.bind_some];cases hf:z17x (k+100) key s with
 | false=>rfl
 | true =>
   have hm:(cut s 16 (s.length - 32)).length<=4096:=by unfold cut;rw[List.length_drop,List.length_take];omega
   unfold zam;rw[show cond true (0:Int) 8=0 from rfl,zn (by rfl),zyw k (by omega) hl,Option.bind_some];have hn:ze2 (k+100) s=some (s.take 16):=by
    unfold ze2;rw[z1i (z9q (by omega)),zn (z2z (by omega)),zl1]
   rw[hn,Option.bind_some,wlen h1 (by omega),zn (z2z (by omega)),zn (z2z (by omega)),Int.toNat_natCast,z1j3 k (by omega) (by rw[zk3 k (by omega) hl];omega) (by rw[List.length_take];omega) hm (by omega),Option.bind_some,Option.bind_some];rfl
theorem zs9 (k:Nat){key s:List UInt8}(hk:600<=k)(hl:key.length<=30000)(h1:48<=s.length):(z152 (k+100) key s).length=s.length - 48:=by
 unfold z152;rw[zqe k hk hl (by rw[List.length_take];omega),List.length_drop,List.length_take];omega
end
end Go.Proofs.YthdblfmolchhpaaGreatDoorLg
set_option linter.all false
set_option maxRecDepth 100000
namespace Go.Proofs.YthdblfmolchhpaaGreatDoorLg
noncomputable section
open Go Go.Lift Go.Proofs.YthdblfmolchhpaaGreatDoorPx
abbrev Lk:Type:=List UInt8×List UInt8×Unit
abbrev Tk:Type:=List UInt8×List Lk×List UInt8×Unit
def zgc (l:Lk):List (List UInt8):=cond (l.2.1 == ([]:List UInt8)) [[102,105,114,115,116],l.1] [[116,104,105,114,100],l.2.1,l.1]
def z6m (id:List UInt8):List (List UInt8):=[[114,111,111,116],id]
def zsd (N:Nat)(t:List UInt8)(l:Lk):List UInt8:=z102 N t (z26 (zgc l))
def zb4 (N:Nat)(key id:List UInt8):List UInt8:=z102 N key (z26 (z6m id))
def zmf (N:Nat)(t:List UInt8)(ls:List Lk):List UInt8:=ls.foldl (zsd N) t
def zfu (N:Nat):List UInt8->List Lk->List (List UInt8)
 | t,[]=>[t]
 | t,l::ls=>t::zfu N (zsd N t l) ls
def zik (l:Lk):Prop:=l.1.length<=4200/\l.2.1.length<=4200
theorem zjp {l:Lk}(h:zik l):(z26 (zgc l)).length<=8500/\(zgc l).length<=3:=by
 unfold zik at h;unfold zgc;cases l.2.1 == ([]:List UInt8) with
 | true=>rw[cond_true,z2f];simp;omega
 | false=>rw[cond_false,z2f];simp;omega
theorem zg7 {id:List UInt8}:(z26 (z6m id)).length=20+id.length:=by
 rw[z2f];simp[z6m];omega
theorem z6g (N:Nat):∀ (ls:List Lk) (t:List UInt8),(zfu N t ls).length=ls.length+1
 | [],t=>rfl
 | l::ls,t=>by rw[zfu,List.length_cons,z6g N ls,List.length_cons]
theorem zo9 (N:Nat):∀ (ls:List Lk) (t:List UInt8),(zfu N t ls).getD ls.length []=zmf N t ls
 | [],t=>rfl
 | l::ls,t=>by
   show (zfu N (zsd N t l) ls).getD ls.length []=_;rw[zo9 N ls];rfl
theorem zdg (k:Nat){t:List UInt8}{l:Lk}(hk:600<=k)(ht:t.length<=30000)(hl:zik l):(zsd (k+100) t l).length=32:=by
 have:=zjp hl;exact z3n k hk ht (by omega)
theorem zdj (k:Nat)(hk:600<=k):∀ (ls:List Lk) {t:List UInt8},t.length=32->(∀ l∈ls,zik l)->(zmf (k+100) t ls).length=32
 | [],t,ht,_=>ht
 | l::ls,t,ht,h=>zdj k hk ls (zdg k hk (by omega) (h l (by simp))) (fun x hx=>h x (by simp[hx]))
theorem z19p (k:Nat){key id:List UInt8}(hk:600<=k)(hl:key.length<=30000)(hi:id.length<=8000):zak (k+100) key id=some (zb4 (k+100) key id):=by
 unfold zak;rw[show z21 (k+100) key [[114,111,111,116],id]=some (zb4 (k+100) key id) from zb6 k (l:=z6m id) hk hl (by simp[z6m]) (by rw[zg7];omega)];rfl
theorem z1a2 (k:Nat){t:List UInt8}{l:Lk}(hk:600<=k)(ht:t.length<=30000)(hl:zik l):z4v (k+100) t l=some (zsd (k+100) t l):=by
 have hp:=zjp hl;unfold z4v;have h:=zb6 k (key:=t) (l:=zgc l) hk ht (by omega) (by omega);unfold zsd;unfold zgc at h ⊢;cases hc:l.2.1 == ([]:List UInt8) with
 | true=>rw[hc,cond_true] at h;rw[cond_true,cond_true,h];rfl
 | false=>rw[hc,cond_false] at h;rw[cond_false,cond_false,h];rfl
theorem z16l (k:Nat){t:List UInt8}{ls:List Lk}(hk:600<=k)(ht:t.length=32)(hn:ls.length<=500)(hl:∀ l∈ls,zik l):z6u (k+100) t ls ()=some ((zfu (k+100) t ls).map fun x=>(x,())):=by
 have key:∀ (d i:Nat) (u:List UInt8),i+d=ls.length->u.length=32->∀ n,d<n →
  iter (fun (v:List UInt8×Int) r=>z3s (k+100) () ls ((ls.length:Nat):Int) v.1 v.2 (fun t x15=>r (t,x15)) (some []) (some [])) n (u,(i:Int))=some ((zfu (k+100) u (ls.drop i)).tail.map fun x=>(x,())):=by
  intro d
  induction d with
  | zero =>
    intro i u hi hu n hn;obtain⟨n,rfl⟩:∃ m,n=m+1:=⟨n - 1,by omega⟩
    simp only[iter];unfold z3s;rw[z1i (z9q (by omega)),z4u ls (by omega)];rfl
  | succ d ih =>
    intro i u hi hu n hn;obtain⟨n,rfl⟩:∃ m,n=m+1:=⟨n - 1,by omega⟩
    have hlt:i<ls.length:=by omega
    have hs:=hl _ (z15o ls ([],[],()) i hlt);have h2:=ih (i+1) (zsd (k+100) u (ls.getD i ([],[],()))) (by omega) (zdg k hk (by omega) hs) n (by omega);simp only[iter];unfold z3s at h2 ⊢;rw[zn (z2z (by omega)),zn (z28 hlt),Int.toNat_natCast,z1a2 k hk (by omega) hs,Option.bind_some,z1o (by omega)];dsimp only;rw[h2,zdx,z2c ls ([],[],()) i hlt];cases hd:ls.drop (i+1)<;>rfl
 unfold z6u zdz;rw[show (0:Int)=((0:Nat):Int) from rfl,key ls.length 0 t (by omega) ht (k+100) (by omega),zdx,List.drop_zero];cases ls<;>rfl
theorem z19f (k:Nat){key:List UInt8}{t:Tk}(hk:600<=k)(hl:key.length<=30000)(hi:t.1.length<=8000)(hn:t.2.1.length<=100)(hs:∀ l∈t.2.1,zik l):zai (k+100) key t=some (zfu (k+100) (zb4 (k+100) key t.1) t.2.1):=by
 have hr:(zb4 (k+100) key t.1).length=32:=z3n k (key:=key) (text:=z26 (z6m t.1)) hk hl (by rw[zg7];omega);have hw:IntKind.wrap .i64 ((1:Int)+((t.2.1.length:Nat):Int))=((1+t.2.1.length:Nat):Int):=by rw[z2j (by unfold I64;omega)];omega
 unfold zai;rw[hw,zn (z2z ⟨by omega,by omega,by omega,by omega⟩),z19p k hk hl hi,Option.bind_some];unfold zi6 z5r;dsimp only;rw[z16l k hk hr (by omega) hs,Option.bind_some];rw[zky (fun (v:List (List UInt8)) (ys:List (List UInt8×Unit))=>v.length+ys.length<=1000) (fun v y=>v++[y.1]) (by
  intro y ys v r hI;rw[List.length_cons] at hI;refine⟨?_,by rw[List.length_append,List.length_singleton];omega⟩;unfold zbt;rw[zn (z2z (by omega))]) _ _ (by rw[List.length_map,z6g,List.length_nil];omega)]
 have:∀ (ys:List (List UInt8)) (a:List (List UInt8)),(ys.map fun x=>(x,())).foldl (fun v (y:List UInt8×Unit)=>v++[y.1]) a=a++ys:=by
  intro ys
  induction ys with
  | nil=>intro a;simp
  | cons y ys ih=>intro a;rw[List.map_cons,List.foldl_cons,ih];simp
 rw[this];rfl
def zhr (N:Nat):List UInt8->List Lk->List (List UInt8)
 | _,[]=>[]
 | t,l::ls=>z9y N t (z26 (zgc l))++zhr N (zsd N t l) ls
def zrh (N:Nat)(key id:List UInt8)(ls:List Lk):List (List UInt8):=z9y N key (z26 (z6m id))++zhr N (zb4 N key id) ls
theorem z71 (N:Nat):∀ (ls:List Lk) (t:List UInt8),(zhr N t ls).length=2*ls.length
 | [],t=>rfl
 | l::ls,t=>by rw[zhr,List.length_append,z71 N ls,List.length_cons];simp[z9y];omega
def Clashes (N:Nat)(A B:List (List UInt8)):Prop:=∃ p∈A,∃ q∈B,p≠q/\z13d N p=z13d N q
theorem Clashes.mono {N:Nat}{A B A' B':List (List UInt8)}(hA:∀ p∈A,p∈A')(hB:∀ p∈B,p∈B'):Clashes N A B->Clashes N A' B'
 | ⟨p,hp,q,hq,h⟩=>⟨p,hA p hp,q,hB q hq,h⟩
end
end Go.Proofs.YthdblfmolchhpaaGreatDoorLg
set_option linter.all false
set_option maxRecDepth 100000
namespace Go.Proofs.YthdblfmolchhpaaGreatDoorLg
noncomputable section
open Go Go.Lift Go.Proofs.YthdblfmolchhpaaGreatDoorPx
theorem zuy (k:Nat){t:Tk}(hk:600<=k):∃ b,z25 (k+100) t=some b/\(b=false->t.1.length<=4200/\t.2.2.1.length<=100/\t.2.1.length<=70/\∀ l∈t.2.1,zik l):=by
 unfold z25 z4p z4o;by_cases h1:4200<t.1.length
 . rw[zn (z2z (by omega))];exact⟨true,rfl,fun h=>by cases h⟩
 rw[z1i (z9q (by omega))];by_cases h2:100<t.2.2.1.length
 . rw[zn (z2z (by omega))];exact⟨true,rfl,fun h=>by cases h⟩
 rw[z1i (z9q (by omega))];by_cases h3:70<t.2.1.length
 . rw[show decide ((70:Int)<((t.2.1.length:Nat):Int))=true from z2z (by omega)];exact⟨true,rfl,fun h=>by cases h⟩
 rw[show decide ((70:Int)<((t.2.1.length:Nat):Int))=false from z9q (by omega)];dsimp only;rw[cond_false];unfold z7c;refine zhs (I:=fun (v:Int×Int)=>∃ i a:Nat,i<=t.2.1.length/\v=((a:Int),(i:Int))/\a<=8400*i/\∀ j,j<i->zik (t.2.1.getD j ([],[],()))) (m:=fun v=>t.2.1.length - v.2.toNat) (p:=fun o=>∃ b,o=some b/\(b=false->t.1.length<=4200/\t.2.2.1.length<=100/\t.2.1.length<=70/\∀ l∈t.2.1,zik l)) ?_ (k+100) (0,0) ⟨0,0,by omega,rfl,by omega,fun j h=>by omega⟩ (by dsimp only;omega);rintro v r ⟨i,a,hi,rfl,ha,hs⟩ hr;dsimp only at hr ⊢;unfold z4k z4n z4m z4l;by_cases hlt:i<t.2.1.length
 . have hin:inR (i:Int) t.2.1.length=true:=z28 hlt;rw[zn (z2z (by omega))];simp only[hin,cond_true,Int.toNat_natCast];by_cases g1:4200<(t.2.1.getD i ([],[],())).1.length
   . rw[zn (z2z (by omega))];exact⟨true,rfl,fun h=>by cases h⟩
   rw[z1i (z9q (by omega))];by_cases g2:4200<(t.2.1.getD i ([],[],())).2.1.length
   . rw[show decide ((4200:Int)<(((t.2.1.getD i ([],[],())).2.1.length:Nat):Int))=true from z2z (by omega)];exact⟨true,rfl,fun h=>by cases h⟩
   rw[show decide ((4200:Int)<(((t.2.1.getD i ([],[],())).2.1.length:Nat):Int))=false from z9q (by omega)];try dsimp only
   have hw:IntKind.wrap .i64 (IntKind.wrap .i64 ((a:Int)+(((t.2.1.getD i ([],[],())).1.length:Nat):Int))+(((t.2.1.getD i ([],[],())).2.1.length:Nat):Int))=((a+(t.2.1.getD i ([],[],())).1.length+(t.2.1.getD i ([],[],())).2.1.length:Nat):Int):=by
    rw[z2j (x:=(a:Int)+_) (by unfold I64;omega),z2j (by unfold I64;omega)];omega
   rw[cond_false,hw,z1o (by omega)];refine hr _ ⟨i+1,a+(t.2.1.getD i ([],[],())).1.length+(t.2.1.getD i ([],[],())).2.1.length,by omega,rfl,by omega,fun j hj=>?_⟩ (by dsimp only;omega);by_cases e:j=i
   . subst e;exact⟨by omega,by omega⟩
   . exact hs j (by omega)
 . rw[z1i (z9q (by omega))];refine⟨_,rfl,fun _=>⟨by omega,by omega,by omega,fun l hl=>?_⟩⟩;obtain⟨j,hj,rfl⟩:=List.mem_iff_getElem.1 hl;have:=hs j (by omega);rw[show t.2.1.getD j ([],[],())=t.2.1[j] by simp[List.getD,hj]] at this;exact this
end
end Go.Proofs.YthdblfmolchhpaaGreatDoorLg
set_option linter.all false
set_option maxRecDepth 100000
namespace Go.Proofs.YthdblfmolchhpaaGreatDoorLg
noncomputable section
open Go Go.Lift Go.Proofs.YthdblfmolchhpaaGreatDoorPx
def z29:Tk:=([],[],[],())
def z8c (N:Nat)(t:List UInt8):List UInt8:=z102 N t (z26 [[115,101,97,108]])
def zzb (N:Nat)(t d:List UInt8):List UInt8:=z102 N t (z26 [[98,105,110,100],d])
theorem zrv:(z26 [[115,101,97,108]]).length=12:=by rw[z2f];rfl
theorem ztm (d:List UInt8):(z26 [[98,105,110,100],d]).length=20+d.length:=by
 rw[z2f];simp;omega
theorem zf5 (k:Nat){t:List UInt8}(hk:600<=k)(ht:t.length<=30000):(z8c (k+100) t).length=32:=z3n k hk ht (by rw[zrv];omega)
theorem ztl (k:Nat){t d:List UInt8}(hk:600<=k)(ht:t.length<=30000)(hd:d.length<=8000):(zzb (k+100) t d).length=32:=z3n k hk ht (by rw[ztm];omega)
theorem ztb (k:Nat){t:List UInt8}(hk:600<=k)(ht:t.length<=30000):zaj (k+100) t=some (z8c (k+100) t):=by
 rw[zaj,show z21 (k+100) t [[115,101,97,108]]=some (z8c (k+100) t) from zb6 k (l:=[[115,101,97,108]]) hk ht (by simp) (by rw[zrv];omega)];rfl
theorem ztc (k:Nat){t d:List UInt8}(hk:600<=k)(ht:t.length<=30000)(hd:d.length<=8000):zal (k+100) t d=some (zzb (k+100) t d):=by
 rw[zal,show z21 (k+100) t [[98,105,110,100],d]=some (zzb (k+100) t d) from zb6 k (l:=[[98,105,110,100],d]) hk ht (by simp) (by rw[ztm];omega)];rfl
end
end Go.Proofs.YthdblfmolchhpaaGreatDoorLg
set_option linter.all false
set_option maxRecDepth 100000
namespace Go.Proofs.YthdblfmolchhpaaGreatDoorLg
noncomputable section
open Go Go.Lift Go.Proofs.YthdblfmolchhpaaGreatDoorPx
abbrev zan:Type:=Tk×List Tk×Unit
abbrev ItD:Type:=Tk×List (List UInt8)
structure SV where
 used:List Bool
 items:List ItD
 texts:List (List UInt8)
 work:Nat
 summed:List (List UInt8)
theorem zae {σ β γ:Type}{step:σ->(σ->Option β)->Option β}(I:γ->σ->Prop)(m:σ->Nat)(R:γ->Option β)
 (h:∀ g v r,I g v->(∀ g' v',I g' v'->m v'<m v->r v'=R g')->step v r=R g):∀ (n:Nat) (g:γ) (v:σ),I g v->m v<n->iter step n v=R g
 | 0,g,v,_,hm=>by omega
 | n+1,g,v,hv,hm=>h g v (iter step n) hv fun g' v' hv' hlt=>zae I m R h n g' v' hv' (by omega)
def zq2 (N:Nat)(key s:List UInt8):Option (List UInt8):=if 48<=s.length/\s.length<=4144/\z17x N key s=true then some (z152 N key s) else none
def boxS (N:Nat)(key s:List UInt8):List (List UInt8):=if 48<=s.length/\s.length<=4144 then z9y N key (z26 [[116,97,103]])++z9y N (tagK N key) (s.take (s.length - 32)) else []
def zkp (id:List UInt8):List Tk->List Bool->Nat->Option Nat
 | t::ts,u::us,i=>if t.1=id/\u=false then some i else zkp id ts us (i+1)
 | _,_,_=>none
def zf0 (N:Nat) (b:zan) (st:SV) (before:List UInt8) (l:Lk):SV×Bool :=
 let s1:SV:={ st with work:=st.work+1,summed:=st.summed++(z9y N before (z26 [[115,101,97,108]])++boxS N (z8c N before) l.2.1) }
 match zq2 N (z8c N before) l.2.1 with
 | none=>(s1,false)
 | some c=>match zkp l.1 b.2.1 st.used 0 with
   | none=>(s1,false)
   | some a =>
     let d:=b.2.1.getD a z29
     let tg:=zfu N (zb4 N c d.1) d.2.1
     let last:=zmf N (zb4 N c d.1) d.2.1
     let s2:SV:={ s1 with used:=st.used.set a true,work:=st.work+d.2.1.length+3,summed:=s1.summed++(zrh N c d.1 d.2.1++z9y N b.1.2.2.1 (z26 [[98,105,110,100],last])) }
     if zzb N b.1.2.2.1 last=d.2.2.1 then ({ s2 with items:=st.items++[(d,tg)] },true) else (s2,false)
def z5u (N:Nat) (b:zan):List Lk->List (List UInt8)->SV->SV×Bool
 | [],_,st=>(st,true)
 | _::_,[],st=>(st,false)
 | l::ls,g::gs,st=>if l.2.1=[] then z5u N b ls gs { st with texts:=st.texts++[l.1] } else
   match zf0 N b st g l with
   | (s,true)=>z5u N b ls gs s
   | (s,false)=>(s,false)
def z7e (N:Nat) (b:zan):Nat->Nat->SV->SV×Bool
 | 0,_,st=>(st,false)
 | f + 1,i,st=>if i<st.items.length then
     match z5u N b (st.items.getD i (z29,[])).1.2.1 (st.items.getD i (z29,[])).2 st with
     | (s,true)=>z7e N b f (i+1) s
     | (s,false)=>(s,false)
   else (st,true)
def z6f (ls:List Lk):Nat:=(ls.filter fun l=>!(l.2.1 == [])).length
def z92 (its:List ItD):Nat:=(its.map fun x=>z6f x.1.2.1).sum
def zz2 (t:Tk):Nat:=t.2.1.length+2+z6f t.2.1
def z14w:List Tk->List Bool->Nat
 | t::ts,u::us=>(if u then 0 else zz2 t)+z14w ts us
 | _,_=>0
def zr9 (us:List Bool):Nat:=(us.filter id).length
theorem zl7 (ls:List Lk):z6f ls<=ls.length:=List.length_filter_le ..
theorem zat (l:Lk)(ls:List Lk):z6f (l::ls)=(if l.2.1=[] then 0 else 1)+z6f ls:=by
 unfold z6f;by_cases h:l.2.1=[]
 . simp[h]
 . simp[h];omega
theorem zdl (a b:List ItD):z92 (a++b)=z92 a+z92 b:=by simp[z92]
theorem zdk (a:ItD):z92 [a]=z6f a.1.2.1:=by simp[z92]
theorem zj7 (id:List UInt8):∀ (ts:List Tk) (us:List Bool) (i a:Nat),zkp id ts us i=some a->i<=a/\a - i<ts.length/\a - i<us.length/\(ts.getD (a - i) z29).1=id/\us.getD (a - i) true=false ∧
 z14w ts us=z14w ts (us.set (a - i) true)+zz2 (ts.getD (a - i) z29)/\zr9 (us.set (a - i) true)=zr9 us+1
 | [],us,i,a,h=>by simp[zkp] at h
 | t::ts,[],i,a,h=>by simp[zkp] at h
 | t :: ts,u::us,i,a,h=>by
   unfold zkp at h;split at h
   . rename_i hc;cases h;obtain⟨h1,h2⟩:=hc;subst h2;rw[Nat.sub_self];refine⟨Nat.le_refl _,by simp,by simp,h1,rfl,?_,?_⟩
     . simp[z14w];omega
     . simp[zr9]
   . obtain⟨g1,g2,g3,g4,g5,g6,g7⟩:=zj7 id ts us (i+1) a h;have e:a - i=(a - (i+1))+1:=by omega
     rw[e];refine⟨by omega,by simp;omega,by simp;omega,by simpa using g4,by simpa using g5,?_,?_⟩
     . simp only[List.set_cons_succ,z14w,List.getD_cons_succ];omega
     . simp only[List.set_cons_succ,zr9,List.filter_cons] at g7 ⊢;cases u<;>simp at g7 ⊢<;>omega
theorem zpe (us:List Bool):zr9 us<=us.length:=List.length_filter_le ..
structure GoodT (t:Tk):Prop where
 id:t.1.length<=4200
 tag:t.2.2.1.length<=100
 len:t.2.1.length<=64
 links:∀ l∈t.2.1,zik l
structure GoodB (b:zan):Prop where
 one:GoodT b.1
 more:∀ t∈b.2.1,GoodT t
 len:b.2.1.length<=8
def z1ei (x:ItD):Prop:=GoodT x.1/\x.2.length=x.1.2.1.length+1/\∀ g∈x.2,g.length=32
structure Inv (b:zan) (C i:Nat) (ls:List Lk) (st:SV):Prop where
 used:st.used.length=b.2.1.length
 items:∀ x∈st.items,z1ei x
 len:st.items.length<=zr9 st.used+1
 texts:st.texts.length+ls.length<=64*(i+1)
 summed:st.summed.length<=200*st.work+200
 work:st.work+z14w b.2.1 st.used+z6f ls+z92 (st.items.drop (i+1))<=C
theorem z6s {α:Type}(l:List α)(d:α)(i:Nat)(h:i<l.length):l.getD i d∈l:=by
 rw[List.getD_eq_getElem?_getD,List.getElem?_eq_getElem h];simp
theorem zph (k:Nat)(hk:600<=k):∀ (ls:List Lk) {t:List UInt8},t.length=32->(∀ l∈ls,zik l)->∀ g∈zfu (k+100) t ls,g.length=32
 | [],t,ht,_,g,hg=>by simp[zfu] at hg;rw[hg];exact ht
 | l::ls,t,ht,hs,g,hg=>by
   rw[zfu] at hg;rcases List.mem_cons.1 hg with rfl|hg
   . exact ht
   . exact zph k hk ls (zdg k hk (by omega) (hs l List.mem_cons_self)) (fun x hx=>hs x (List.mem_cons_of_mem _ hx)) g hg
theorem zjq (k:Nat){key s c:List UInt8}(hk:600<=k)(hl:key.length<=30000)(h:zq2 (k+100) key s=some c):c.length<=4096:=by
 unfold zq2 at h;split at h
 . rename_i hc;cases h;rw[zs9 k hk hl hc.1];omega
 . cases h
theorem zwm (k:Nat){c id:List UInt8}(hk:600<=k)(hc:c.length<=30000)(hi:id.length<=8000):(zb4 (k+100) c id).length=32 :=
 z3n k (key:=c) (text:=z26 (z6m id)) hk hc (by rw[zg7];omega)
theorem zrf (k:Nat) (hk:600<=k) {b:zan} {C i:Nat} {l:Lk} {ls:List Lk} {st:SV} {before:List UInt8} (hb:GoodB b) (h:Inv b C i (l::ls) st) (hi:i<st.items.length) (hl:l.2.1≠[]) (hbf:before.length=32) :
 Inv b C i ls (zf0 (k+100) b st before l).1:=by
 have hw:=h.work;have htx:=h.texts;have hsm:=h.summed;rw[zat,if_neg hl] at hw;simp only[List.length_cons] at htx;have hsl:(z8c (k+100) before).length=32:=zf5 k hk (by omega);have hS1:(z9y (k+100) before (z26 [[115,101,97,108]])++boxS (k+100) (z8c (k+100) before) l.2.1).length<=6:=by
  unfold boxS;split<;>simp[z9y]
 have base:Inv b C i ls { st with work:=st.work+1,summed:=st.summed++(z9y (k+100) before (z26 [[115,101,97,108]])++boxS (k+100) (z8c (k+100) before) l.2.1) } :=
  ⟨h.used,h.items,h.len,by simp only;omega,by simp only;rw[List.length_append];omega,by simp only;omega⟩
 unfold zf0;simp only;cases ho:zq2 (k+100) (z8c (k+100) before) l.2.1 with
 | none=>exact base
 | some c =>
   simp only;have hc:=zjq k hk (by omega) ho;cases hf:zkp l.1 b.2.1 st.used 0 with
   | none=>exact base
   | some a =>
     simp only;obtain⟨_,g2,g3,g4,g5,g6,g7⟩:=zj7 _ _ _ _ _ hf;rw[Nat.sub_zero] at g2 g3 g4 g5 g6 g7;have hd:=hb.more _ (z6s b.2.1 z29 a g2);generalize b.2.1.getD a z29=d at *;have hr:=zwm k (c:=c) (id:=d.1) hk (by omega) (by have:=hd.id;omega);have hdl:=hd.len;have hS2:(zrh (k+100) c d.1 d.2.1++z9y (k+100) b.1.2.2.1 (z26 [[98,105,110,100],zmf (k+100) (zb4 (k+100) c d.1) d.2.1])).length=2*d.2.1.length+4:=by
      unfold zrh;rw[List.length_append,List.length_append,z71];simp[z9y];omega
     have hcost:zz2 d=d.2.1.length+2+z6f d.2.1:=rfl;split
     . refine⟨by simpa using h.used,?_,?_,by simp only;omega,?_,?_⟩
       . intro x hx;rcases List.mem_append.1 hx with hx|hx
         . exact h.items x hx
         . rw[List.mem_singleton] at hx;subst hx;exact⟨hd,z6g _ _ _,zph k hk _ hr hd.links⟩
       . simp only[List.length_append,List.length_cons,List.length_nil];have:=h.len;omega
       . simp only[List.length_append] at hS1 hS2 ⊢;omega
       . simp only;rw[List.drop_append_of_le_length (by omega),zdl,zdk];simp only;omega
     . refine⟨by simpa using h.used,h.items,?_,by simp only;omega,?_,?_⟩
       . simp only;rw[g7];have:=h.len;omega
       . simp only[List.length_append] at hS1 hS2 ⊢;omega
       . simp only;omega
end
end Go.Proofs.YthdblfmolchhpaaGreatDoorLg
set_option linter.all false
set_option maxRecDepth 100000
namespace Go.Proofs.YthdblfmolchhpaaGreatDoorLg
noncomputable section
open Go Go.Lift Go.Proofs.YthdblfmolchhpaaGreatDoorPx
abbrev VerD:Type:=List Lk×(List (List UInt8)×Unit)
abbrev z13h:Type:=zan×(List Bool×(List VerD×(List (List UInt8)×(Int×Unit))))
def znj (x:ItD):VerD:=(x.1.2.1,(x.2,()))
def z9j (b:zan)(st:SV):z13h:=(b,(st.used,(st.items.map znj,(st.texts,(((st.work:Nat):Int),())))))
def unI:Option Nat->Int
 | some a=>((a:Nat):Int)
 | none=>-1
theorem ztj (k:Nat){key s c:List UInt8}(hk:4400<=k)(hl:key.length<=30000)(h:zq2 (k+100) key s=some c):z7p (k+100) key s=some (c,0,())/\True:=by
 unfold zq2 at h;split at h
 . rename_i hc;cases h;rw[z113 k hk hl hc.1 hc.2.1,hc.2.2];exact⟨rfl,trivial⟩
 . cases h
theorem ztk (k:Nat) {key s:List UInt8} (hk:4400<=k) (hl:key.length<=30000) (h:zq2 (k+100) key s=none):∃ e:Int,e≠0/\z7p (k+100) key s=some ([],e,())/\True:=by
 unfold zq2 at h;split at h
 . cases h
 . rename_i hc;by_cases h1:48<=s.length
   . by_cases h2:s.length<=4144
     . have hf:z17x (k+100) key s=false:=by
        cases hf:z17x (k+100) key s with
        | false=>rfl
        | true=>exact absurd ⟨h1,h2,hf⟩ hc
       refine⟨8,by decide,?_,trivial⟩;rw[z113 k hk hl h1 h2,hf];rfl
     . refine⟨3,by decide,?_,trivial⟩;have e:decide ((((List.length s):Nat):Int)<(48:Int))=false:=z9q (by omega);have e2:decide ((4144:Int)<(((List.length s):Nat):Int))=true:=z2z (by omega);unfold z7p z4w;simp only[e,e2,cond_true,cond_false];rfl
   . refine⟨1,by decide,?_,trivial⟩;have e:decide ((((List.length s):Nat):Int)<(48:Int))=true:=z2z (by omega);unfold z7p z4w;simp only[e,cond_true];rfl
theorem zzu (N:Nat){r:z13h}{id:List UInt8}(hu:r.2.1.length=r.1.2.1.length)(hl:r.1.2.1.length<=100)(hN:200<N) :
 z2s N r id=some (unI (zkp id r.1.2.1 r.2.1 0),(r,())):=by
 rw[z2s,z77];refine (z65 (fun v=>∃ i:Nat,v=(i:Int)/\i<=r.1.2.1.length) (fun v=>r.1.2.1.length - v.toNat) (fun v=>some (unI (zkp id (r.1.2.1.drop v.toNat) (r.2.1.drop v.toNat) v.toNat),(r,()))) ?_ N 0 ⟨0,rfl,by omega⟩ (by omega)).trans (by rfl);rintro v r' ⟨i,rfl,hi⟩ hr;simp only[Int.toNat_natCast];rw[z4e];by_cases hlt:i<r.1.2.1.length
 . have hlt2:i<r.2.1.length:=by omega
   rw[zn (decide_eq_true (by omega)),zn (z28 hlt),z4f,Int.toNat_natCast,z2c r.1.2.1 z29 i hlt,z2c r.2.1 false i hlt2,zkp];rw[show (([]:List UInt8),(([]:List ((List UInt8)×((List UInt8)×Unit))),(([]:List UInt8),())))=z29 from rfl,z1o (by omega),hr _ ⟨i+1,rfl,by omega⟩ (by omega),Int.toNat_natCast];by_cases h1:(r.1.2.1.getD i z29).1=id
   . rw[zn (beq_iff_eq.2 h1),zn (z28 hlt2),zn (decide_eq_true hlt2)];cases hb:r.2.1.getD i false with
     | true=>rw[if_neg (by simp)];rfl
     | false=>rw[if_pos ⟨h1,rfl⟩];rfl
   . rw[z1i (beq_eq_false_iff_ne.2 h1),if_neg (fun h=>h1 h.1)];rfl
 . rw[z1i (decide_eq_false (by omega)),z4u _ (by omega),zkp]
   . rfl
   . simp
theorem zwl (k:Nat)(hk:600<=k){r:z13h}{key:List UInt8}{t:Tk}{w:Nat}(hw:r.2.2.2.2.1=((w:Nat):Int))(hw2:w<=1000000)(hl:key.length<=30000)(ht:GoodT t) :
 z2t (k+100) r key t=some ((zfu (k+100) (zb4 (k+100) key t.1) t.2.1,(zmf (k+100) (zb4 (k+100) key t.1) t.2.1,())),((r.1,(r.2.1,(r.2.2.1,(r.2.2.2.1,(((w+(t.2.1.length+1):Nat):Int),r.2.2.2.2.2))))),())):=by
 have h1:=ht.id;have h2:=ht.len;rw[z2t,z19f k hk hl (by omega) (by omega) ht.links,Option.bind_some,z6g,z2j (x:=(((t.2.1.length+1:Nat):Nat):Int) - 1) (by unfold I64;omega),show (((t.2.1.length+1:Nat):Nat):Int) - 1=((t.2.1.length:Nat):Int) by omega,zn (z28 (by omega)),Int.toNat_natCast,zo9,hw,z2j (by unfold I64;omega)];congr 1
theorem zxj {tag bt:List UInt8}(h:bt.length=32):(decide (tag.length=32) && (tag == bt))=decide (bt=tag):=by
 by_cases e:bt=tag
 . subst e;simp[h]
 . rw[decide_eq_false e,beq_eq_false_iff_ne.2 (Ne.symm e),Bool.and_false]
theorem z14f (k:Nat) (hk:4400<=k) {b:zan} {C i:Nat} {l:Lk} {ls:List Lk} {st:SV} {before:List UInt8} (hb:GoodB b) (h:Inv b C i (l::ls) st) (hC:C<=100000) (hbf:before.length=32) :
 z3c (k+100) (z9j b st) before l=some ((zf0 (k+100) b st before l).2,(z9j b (zf0 (k+100) b st before l).1,())):=by
 have hwk:=h.work;have hsl:(z8c (k+100) before).length=32:=zf5 k (by omega) (by omega);obtain⟨used,items,texts,work,summed⟩:=st;have hu:used.length=b.2.1.length:=h.used;have hb8:=hb.len;simp only at hwk;have hw1:IntKind.wrap .i64 (((work:Nat):Int)+1)=((work+1:Nat):Int):=by rw[z2j (by unfold I64;omega)];omega
 rw[z3c,ztb k (by omega) (by omega),Option.bind_some];unfold zf0 z9j;simp only;rw[hw1];cases ho:zq2 (k+100) (z8c (k+100) before) l.2.1 with
 | none =>
   obtain⟨e,he,hbx,_⟩:=ztk k hk (by omega) ho;rw[hbx,Option.bind_some,zn (bne_iff_ne.2 he)]
 | some c =>
   have hc:=zjq k (by omega) (by omega) ho;rw[(ztj k hk (by omega) ho).1,Option.bind_some,z1i (by rfl)];simp only;rw[zzu (k+100) (r:=(b,(used,(items.map znj,(texts,(((work+1:Nat):Int),())))))) hu (by simp only;omega) (by omega),Option.bind_some];simp only;cases hf:zkp l.1 b.2.1 used 0 with
   | none =>
     rw[zn (by rfl)]
   | some a =>
     obtain⟨_,g2,g3,g4,g5,g6,g7⟩:=zj7 _ _ _ _ _ hf;rw[Nat.sub_zero] at g2 g3;have hd:=hb.more _ (z6s b.2.1 z29 a g2);have hd1:=hd.tag;have hd2:=hd.len;have hd3:=hd.id;have hbt:=hb.one.tag;have hr:=zwm k (c:=c) (id:=(b.2.1.getD a z29).1) (by omega) (by omega) (by omega);have hlast:(zmf (k+100) (zb4 (k+100) c (b.2.1.getD a z29).1) (b.2.1.getD a z29).2.1).length=32:=zdj k (by omega) _ hr hd.links;have hbn:(zzb (k+100) b.1.2.2.1 (zmf (k+100) (zb4 (k+100) c (b.2.1.getD a z29).1) (b.2.1.getD a z29).2.1)).length=32:=ztl k (by omega) (by omega) (by omega);rw[show unI (some a)=((a:Nat):Int) from rfl,z1i (decide_eq_false (by omega)),zn (z28 g2),zn (z28 g3),Int.toNat_natCast,zn (decide_eq_true g3)];rw[show (([]:List UInt8),(([]:List ((List UInt8)×((List UInt8)×Unit))),(([]:List UInt8),())))=z29 from rfl];rw[zwl k (by omega) (w:=work+1) rfl (by omega) (by omega) hd,Option.bind_some];simp only;rw[ztc k (by omega) (by omega) (by omega),Option.bind_some,zu8 (k+100) (by omega) (by omega),Option.bind_some,zxj hbn];have hw2:IntKind.wrap .i64 (((work+1+((b.2.1.getD a z29).2.1.length+1):Nat):Int)+1)=((work+(b.2.1.getD a z29).2.1.length+3:Nat):Int):=by rw[z2j (by unfold I64;omega)];omega
     rw[hw2];have hil:items.length<=9:=by
      have h1:items.length<=zr9 used+1:=h.len;have h2:=zpe used;omega
     by_cases he:zzb (k+100) b.1.2.2.1 (zmf (k+100) (zb4 (k+100) c (b.2.1.getD a z29).1) (b.2.1.getD a z29).2.1)=(b.2.1.getD a z29).2.2.1
     . rw[decide_eq_true he,Bool.not_true,cond_false,zn (decide_eq_true (by rw[List.length_map];omega)),if_pos he,List.map_append];rfl
     . rw[decide_eq_false he,Bool.not_false,cond_true,if_neg he]
end
end Go.Proofs.YthdblfmolchhpaaGreatDoorLg
set_option linter.all false
set_option maxRecDepth 100000
namespace Go.Proofs.YthdblfmolchhpaaGreatDoorLg
noncomputable section
open Go Go.Lift Go.Proofs.YthdblfmolchhpaaGreatDoorPx
theorem zl8 (N:Nat)(b:zan)(st:SV)(before:List UInt8)(l:Lk):st.items.length<=(zf0 N b st before l).1.items.length:=by
 unfold zf0;simp only;split
 . exact Nat.le_refl _
 . split
   . exact Nat.le_refl _
   . split
     . simp
     . exact Nat.le_refl _
theorem z10x {b:zan}{C i:Nat}{l:Lk}{ls:List Lk}{st:SV}(h:Inv b C i (l::ls) st)(hl:l.2.1=[]):Inv b C i ls { st with texts:=st.texts++[l.1] }:=by
 have h1:=h.texts;have h2:=h.work;rw[zat,if_pos hl] at h2;refine⟨h.used,h.items,h.len,?_,h.summed,by simp only;omega⟩;simp only[List.length_append,List.length_cons,List.length_nil] at h1 ⊢;omega
theorem zhw (k:Nat) (hk:600<=k) {b:zan} {C i:Nat} (hb:GoodB b):∀ (ls:List Lk) (gs:List (List UInt8)) (st:SV),Inv b C i ls st->i<st.items.length->(∀ g∈gs,g.length=32) →
 (z5u (k+100) b ls gs st).1.work<=C/\(z5u (k+100) b ls gs st).1.used.length=b.2.1.length/\(z5u (k+100) b ls gs st).1.summed.length<=200*C+200/\((z5u (k+100) b ls gs st).2=true->Inv b C i [] (z5u (k+100) b ls gs st).1/\i<(z5u (k+100) b ls gs st).1.items.length)
 | [],gs,st,h,hi,_=>by
   unfold z5u;have hw:=h.work;have hs:=h.summed;exact⟨by simp only;omega,h.used,by simp only;omega,fun _=>⟨h,hi⟩⟩
 | l::ls,[],st,h,hi,_=>by
   unfold z5u;have hw:=h.work;have hs:=h.summed;exact⟨by simp only;omega,h.used,by simp only;omega,fun e=>by cases e⟩
 | l :: ls,g::gs,st,h,hi,hg=>by
   unfold z5u;by_cases hl:l.2.1=[]
   . rw[if_pos hl];exact zhw k hk hb ls gs _ (z10x h hl) hi (fun x hx=>hg x (List.mem_cons_of_mem _ hx))
   . rw[if_neg hl];have h1:=zrf k hk hb h hi hl (hg g List.mem_cons_self);have h2:=zl8 (k+100) b st g l;have hw:=h1.work;have hs:=h1.summed;generalize zf0 (k+100) b st g l=T at *;obtain⟨s,ok⟩:=T;cases ok with
     | true=>exact zhw k hk hb ls gs s h1 (Nat.lt_of_lt_of_le hi h2) (fun x hx=>hg x (List.mem_cons_of_mem _ hx))
     | false =>
       simp only at hw hs ⊢;exact⟨by omega,h1.used,by omega,fun e=>by cases e⟩
structure OInv (b:zan) (C i:Nat) (st:SV):Prop where
 used:st.used.length=b.2.1.length
 items:∀ x∈st.items,z1ei x
 len:st.items.length<=zr9 st.used+1
 texts:st.texts.length<=64*i
 summed:st.summed.length<=200*st.work+200
 work:st.work+z14w b.2.1 st.used+z92 (st.items.drop i)<=C
theorem OInv.enter {b:zan}{C i:Nat}{st:SV}(h:OInv b C i st)(hi:i<st.items.length):Inv b C i (st.items.getD i (z29,[])).1.2.1 st:=by
 have hx:=h.items _ (z6s st.items (z29,[]) i hi);have hw:=h.work;have ht:=h.texts;have hl:=hx.1.len;rw[z2c st.items (z29,[]) i hi,show ((st.items.getD i (z29,[]))::st.items.drop (i+1))=[st.items.getD i (z29,[])]++st.items.drop (i+1) from rfl,zdl,zdk] at hw;exact⟨h.used,h.items,h.len,by omega,h.summed,by omega⟩
theorem Inv.leave {b:zan}{C i:Nat}{st:SV}(h:Inv b C i [] st):OInv b C (i+1) st:=by
 have hw:=h.work;have ht:=h.texts;exact⟨h.used,h.items,h.len,by simpa using ht,h.summed,by simp only[z6f,List.filter_nil,List.length_nil] at hw;omega⟩
theorem zm4 (k:Nat)(hk:600<=k){b:zan}{C:Nat}(hb:GoodB b):∀ (f i:Nat) (st:SV),OInv b C i st →
 (z7e (k+100) b f i st).1.work<=C/\(z7e (k+100) b f i st).1.used.length=b.2.1.length/\(z7e (k+100) b f i st).1.summed.length<=200*C+200
 | 0,i,st,h=>by
   have hw:=h.work;have hs:=h.summed;exact⟨by simp only[z7e];omega,h.used,by simp only[z7e];omega⟩
 | f + 1,i,st,h=>by
   unfold z7e;split
   . rename_i hi;have hx:=h.items _ (z6s st.items (z29,[]) i hi);have hf:=zhw k hk hb _ (st.items.getD i (z29,[])).2 st (h.enter hi) hi hx.2.2;generalize z5u (k+100) b (st.items.getD i (z29,[])).1.2.1 (st.items.getD i (z29,[])).2 st=T at *;obtain⟨s,ok⟩:=T;cases ok with
     | true=>exact zm4 k hk hb f (i+1) s (hf.2.2.2 rfl).1.leave
     | false=>exact⟨hf.1,hf.2.1,hf.2.2.1⟩
   . have hw:=h.work;have hs:=h.summed;exact⟨by simp only;omega,h.used,by simp only;omega⟩
theorem z10y (l:Lk):eqD (T.pair T.str (T.pair T.str T.unit)) l (l.1,(([]:List UInt8),()))=decide (l.2.1=[]):=by
 obtain⟨a,c,u⟩:=l;cases u;rw[Bool.eq_iff_iff,decide_eq_true_eq,zqh _ _ _ rfl];simp
theorem z15n (k:Nat) (hk:4400<=k) {b:zan} {C i:Nat} (hb:GoodB b) (hC:C<=100000) (hi9:i<=20) {complete:Bool} {i0:Int} {x:ItD} (hx:z1ei x) {st0:SV} (h0:Inv b C i x.1.2.1 st0) (hi0:i<st0.items.length)
 (k0:z13h->Bool->Option (Int×(z13h×Unit))) (k1:z13h->Option (Int×(z13h×Unit))) :
 z2q (k+100) (z9j b st0) complete i0 (znj x) (znj x).1 (((znj x).1.length:Nat):Int) 0 k0 k1=match z5u (k+100) b x.1.2.1 x.2 st0 with|(s,true)=>k1 (z9j b s)|(s,false)=>k0 (z9j b s) false:=by
 have hxl:=hx.1.len;have hxt:=hx.2.1;have hxl':=hx.1.links;show z2q (k+100) (z9j b st0) complete i0 (znj x) x.1.2.1 ((x.1.2.1.length:Nat):Int) 0 k0 k1=_;rw[z2q];refine (zae (γ:=List Lk×List (List UInt8)×SV) (fun g v=>∃ j:Nat,v=(z9j b g.2.2,(j:Int))/\j<=x.1.2.1.length/\g.1=x.1.2.1.drop j/\g.2.1=x.2.drop j/\Inv b C i g.1 g.2.2/\i<g.2.2.items.length)
  (fun v=>x.1.2.1.length - v.2.toNat) (fun g=>match z5u (k+100) b g.1 g.2.1 g.2.2 with|(s,true)=>k1 (z9j b s)|(s,false)=>k0 (z9j b s) false) ?_ (k+100) (x.1.2.1,x.2,st0) (z9j b st0,0) ⟨0,rfl,by omega,rfl,rfl,h0,hi0⟩ (by simp only;omega))
 rintro⟨ls,gs,st⟩ v r ⟨j,rfl,hj,e1,e2,hinv,hi⟩ hr;simp only at e1 e2 hinv hi;subst e1 e2;simp only[Int.toNat_natCast];rw[z49];by_cases hlt:j<x.1.2.1.length
 . have hlt2:j<x.2.length:=by omega
   have hg32:=hx.2.2 _ (z6s x.2 [] j hlt2);have hlk:=hxl' _ (z6s x.1.2.1 ([],[],()) j hlt);rw[z2c x.1.2.1 ([],[],()) j hlt] at hinv ⊢;rw[z2c x.2 [] j hlt2,z5u];rw[zn (decide_eq_true (by omega)),zn (z28 hlt),Int.toNat_natCast,z10y,z1o (by omega)];by_cases hl:(x.1.2.1.getD j ([],[],())).2.1=[]
   . have htx:=hinv.texts;simp only[List.length_cons] at htx;rw[decide_eq_true hl,cond_true,zn (decide_eq_true (by show (st.texts.length+1)*16<=_;omega)),if_pos hl];exact hr (x.1.2.1.drop (j+1),x.2.drop (j+1),_) _ ⟨j+1,rfl,by omega,rfl,rfl,z10x hinv hl,hi⟩ (by simp only;omega)
   . rw[decide_eq_false hl,cond_false,show (znj x).2.1=x.2 from rfl,zn (z28 hlt2),z14f k hk hb hinv hC hg32,Option.bind_some,if_neg hl];have h1:=zrf k (by omega) hb hinv hi hl hg32;have h2:=zl8 (k+100) b st (x.2.getD j []) (x.1.2.1.getD j ([],[],()));generalize zf0 (k+100) b st (x.2.getD j []) (x.1.2.1.getD j ([],[],()))=T at *;obtain⟨s,ok⟩:=T;cases ok with
     | true =>
       rw[Bool.not_true,cond_false];exact hr (x.1.2.1.drop (j+1),x.2.drop (j+1),s) _ ⟨j+1,rfl,by omega,rfl,rfl,h1,Nat.lt_of_lt_of_le hi h2⟩ (by simp only;omega)
     | false=>rfl
 . rw[z1i (decide_eq_false (by omega)),z4u _ (by omega),z5u]
theorem z150 (k:Nat)(hk:4400<=k){b:zan}{C:Nat}(hb:GoodB b)(hC:C<=100000){complete:Bool}{st0:SV}(h0:OInv b C 0 st0)(hc:complete=true)
 (k0:z13h->Bool->Option (Int×(z13h×Unit))) :
 z4c (k+100) (z9j b st0) complete 0 k0=k0 (z9j b (z7e (k+100) b 20 0 st0).1) (z7e (k+100) b 20 0 st0).2:=by
 subst hc;rw[z4c];refine (zae (γ:=Nat×SV) (fun g v=>v=(z9j b g.2,((g.1:Nat):Int))/\g.1<=9/\OInv b C g.1 g.2) (fun v=>10 - v.2.toNat) (fun g=>k0 (z9j b (z7e (k+100) b (20 - g.1) g.1 g.2).1) (z7e (k+100) b (20 - g.1) g.1 g.2).2) ?_ (k+100) (0,st0) (z9j b st0,0) ⟨rfl,by omega,h0⟩ (by simp only;omega));rintro⟨i,st⟩ v r ⟨rfl,hi9,hinv⟩ hr;simp only at hi9 hinv;simp only;rw[z4a];have hb8:=hb.len;have hln:=hinv.len;have hun:=zpe st.used;have hul:=hinv.used;have hlm:(z9j b st).2.2.1.length=st.items.length:=by show (st.items.map znj).length=_;rw[List.length_map]
 obtain⟨f,hf⟩:∃ f,20 - i=f+1:=⟨19 - i,by omega⟩
 rw[hf,z7e,hlm];by_cases hlt:i<st.items.length
 . have hgd:(z9j b st).2.2.1.getD i (([]:List ((List UInt8)×((List UInt8)×Unit))),(([]:List (List UInt8)),()))=znj (st.items.getD i (z29,[])):=by
    show (st.items.map znj).getD i _=_;simp only[List.getD_eq_getElem?_getD,List.getElem?_map,List.getElem?_eq_getElem hlt];rfl
   have hx:=hinv.items _ (z6s st.items (z29,[]) i hlt);rw[zn (decide_eq_true (by omega)),zn (z28 hlt),Int.toNat_natCast,zn (decide_eq_true hlt),hgd,if_pos hlt];rw[z15n k hk hb hC (by omega) hx (hinv.enter hlt) hlt];have hfin:=zhw k (by omega) hb _ (st.items.getD i (z29,[])).2 st (hinv.enter hlt) hlt hx.2.2;generalize z5u (k+100) b (st.items.getD i (z29,[])).1.2.1 (st.items.getD i (z29,[])).2 st=T at *;obtain⟨s,ok⟩:=T;cases ok with
   | true =>
     simp only;obtain⟨h1,h2⟩:=hfin.2.2.2 rfl;simp only at h1 h2;have hl1:=h1.len;have hl2:=zpe s.used;have hl3:=h1.used;rw[z1o (by omega),hr (i+1,s) _ ⟨rfl,by simp only;omega,h1.leave⟩ (by simp only;omega)];simp only;rw[show 20 - (i+1)=f by omega]
   | false=>rfl
 . rw[z1i (decide_eq_false (by omega)),if_neg hlt]
def z1cl (v:Bool):List Bool->Nat->Int
 | [],_=>-1
 | x::l,i=>if v=x then (i:Int) else z1cl v l (i+1)
theorem zx7 (v:Bool):∀ (l:List Bool) (i:Nat),decide (0<=z1cl v l i)=l.contains v
 | [],i=>rfl
 | x::l,i=>by
   unfold z1cl;rw[List.contains_cons];by_cases h:v=x
   . rw[if_pos h,h,beq_self_eq_true,Bool.true_or,decide_eq_true (by omega)]
   . rw[if_neg h,zx7 v l (i+1),beq_eq_false_iff_ne.2 h,Bool.false_or]
theorem zv7 (N:Nat){s:List Bool}{v:Bool}(hs:s.length<=1000)(hN:1000<N):z1q N s v=some (s.contains v):=by
 have hi:z24 N s v=some (z1cl v s 0):=by
  rw[z24,z4r];refine (z65 (fun w=>∃ i:Nat,w=(i:Int)/\i<=s.length) (fun w=>s.length - w.toNat) (fun w=>some (z1cl v (s.drop w.toNat) w.toNat)) ?_ N 0 ⟨0,rfl,by omega⟩ (by omega)).trans (by rfl);rintro w r ⟨i,rfl,hi⟩ hr;simp only[Int.toNat_natCast];rw[z2m];by_cases hlt:i<s.length
  . rw[zn (decide_eq_true (by omega)),zn (z28 hlt),Int.toNat_natCast,z2c s false i hlt,z1cl,z1o (by omega),hr _ ⟨i+1,rfl,by omega⟩ (by omega),Int.toNat_natCast];by_cases h:v=s.getD i false
    . rw[zn (beq_iff_eq.2 h),if_pos h]
    . rw[z1i (beq_eq_false_iff_ne.2 h),if_neg h]
  . rw[z1i (decide_eq_false (by omega)),z4u _ (by omega),z1cl]
 rw[z1q,hi,Option.bind_some,zx7]
def stA (N:Nat)(key:List UInt8)(b:zan):SV:={ used:=List.replicate b.2.1.length false,items:=[],texts:=[],work:=b.1.2.1.length+1,summed:=zrh N key b.1.1 b.1.2.1 }
def stB (N:Nat)(key:List UInt8)(b:zan):SV:={ stA N key b with items:=[(b.1,zfu N (zb4 N key b.1.1) b.1.2.1)] }
def zor (N:Nat)(key:List UInt8)(b:zan):SV×Int :=
 if zmf N (zb4 N key b.1.1) b.1.2.1=b.1.2.2.1 then
 ((z7e N b 20 0 (stB N key b)).1,if (z7e N b 20 0 (stB N key b)).2=true/\(z7e N b 20 0 (stB N key b)).1.used.contains false=false then 0 else 11)
 else (stA N key b,8)
def zm9 (b:zan):Nat:=(b.1.2.1.length+1)+z6f b.1.2.1+(b.2.1.map zz2).sum
theorem zws:∀ ts:List Tk,z14w ts (List.replicate ts.length false)=(ts.map zz2).sum
 | []=>rfl
 | t::ts=>by
   rw[List.length_cons,List.replicate_succ,z14w,zws ts];simp
theorem z108 (k:Nat)(hk:600<=k){key:List UInt8}{b:zan}(hb:GoodB b)(hl:key.length<=30000):OInv b (zm9 b) 0 (stB (k+100) key b):=by
 have hr:=zwm k (c:=key) (id:=b.1.1) hk hl (by have:=hb.one.id;omega);refine⟨by simp[stB,stA],?_,by simp[stB,stA],by simp[stB,stA],?_,?_⟩
 . intro x hx;simp only[stB,List.mem_singleton] at hx;subst hx;exact⟨hb.one,z6g _ _ _,zph k hk _ hr hb.one.links⟩
 . simp only[stB,stA,zrh];rw[List.length_append,z71];simp[z9y];omega
 . simp only[stB,stA,List.drop_zero];rw[zws,zdk];unfold zm9;simp only;omega
theorem zxh:∀ ts:List Tk,(∀ t∈ts,GoodT t)->(ts.map zz2).sum<=130*ts.length
 | [],_=>by simp
 | t::ts,h=>by
   have h1:=zxh ts fun x hx=>h x (List.mem_cons_of_mem _ hx)
   have h2:=(h t List.mem_cons_self).len;have h3:=zl7 t.2.1;simp only[List.map_cons,List.sum_cons,List.length_cons];unfold zz2 at *;omega
theorem z158 {b:zan}(hb:GoodB b):zm9 b<=2000:=by
 have h1:=zxh b.2.1 hb.more;have h2:=hb.len;have h3:=hb.one.len;have h4:=zl7 b.1.2.1;unfold zm9;omega
theorem zty (k:Nat)(hk:4400<=k){key:List UInt8}{b:zan}(hb:GoodB b)(hl:key.length<=30000) :
 (z3v (k+100) b).bind (fun y1=>z2r (k+100) y1 key)=some ((zor (k+100) key b).2,(z9j b (zor (k+100) key b).1,())):=by
 have hb8:=hb.len;have hb1:=hb.one.tag;have hln:=hb.one.len;have hid:=hb.one.id;have hr:=zwm k (c:=key) (id:=b.1.1) (by omega) hl (by omega);have hlast:(zmf (k+100) (zb4 (k+100) key b.1.1) b.1.2.1).length=32:=zdj k (by omega) _ hr hb.one.links;have hO:=z108 k (by omega) hb hl;have hM:=z158 hb;rw[z3v,zn (decide_eq_true ⟨by omega,by omega,by omega,by omega⟩),Option.bind_some,Int.toNat_natCast];rw[z2r,zwl k (by omega) (r:=(b,((List.replicate b.2.1.length false),(([]:List VerD),(([]:List (List UInt8)),((0:Int),())))))) (w:=0) rfl (by omega) hl hb.one,Option.bind_some];simp only;rw[zu8 (k+100) (by omega) (by omega),Option.bind_some,zxj hlast];unfold zor;by_cases he:zmf (k+100) (zb4 (k+100) key b.1.1) b.1.2.1=b.1.2.2.1
 . rw[decide_eq_true he,Bool.not_true,cond_false,if_pos he];have e:((b,(List.replicate b.2.1.length false,([((b.1.2.1,(zfu (k+100) (zb4 (k+100) key b.1.1) b.1.2.1,())):VerD)],(([]:List (List UInt8)),(((b.1.2.1.length+1:Nat):Int),()))))):z13h)=z9j b (stB (k+100) key b):=rfl;rw[Nat.zero_add,e];rw[z4d,z150 k hk hb (by omega) hO rfl];have hfin:=zm4 k (by omega) hb 20 0 _ hO;generalize z7e (k+100) b 20 0 (stB (k+100) key b)=T at *;obtain⟨s,ok⟩:=T;simp only at hfin ⊢;rw[z4b];cases ok with
   | false =>
     rw[Bool.not_false,cond_true,cond_true,if_neg (by simp)]
   | true =>
     rw[Bool.not_true,cond_false,show (z9j b s).2.1=s.used from rfl,zv7 (k+100) (by omega) (by omega),Option.bind_some];cases hcn:s.used.contains false with
     | true=>rw[if_neg (by simp)];rfl
     | false=>rw[if_pos ⟨rfl,rfl⟩];rfl
 . rw[decide_eq_false he,Bool.not_false,cond_true,if_neg he,Nat.zero_add];rfl
end
end Go.Proofs.YthdblfmolchhpaaGreatDoorLg
set_option linter.all false
set_option maxRecDepth 100000
namespace Go.Proofs.YthdblfmolchhpaaGreatDoorLg
noncomputable section
open Go Go.Lift Go.Proofs.YthdblfmolchhpaaGreatDoorPx
def zsj (t:Tk):Bool:=decide (64<t.2.1.length)
def z1ck:List Tk->Nat->Int
 | [],_=>-1
 | x::l,i=>if zsj x then (i:Int) else z1ck l (i+1)
theorem zx6:∀ (l:List Tk) (i:Nat),decide (0<=z1ck l i)=l.any zsj
 | [],i=>rfl
 | x::l,i=>by
   unfold z1ck;rw[List.any_cons];cases h:zsj x with
   | true=>rw[if_pos rfl,Bool.true_or,decide_eq_true (by omega)]
   | false=>rw[if_neg (by simp),zx6 l (i+1),Bool.false_or]
theorem zo0 (N:Nat){s:List Tk}(hs:s.length<=1000)(hN:1000<N):z8r N s=some (s.any zsj):=by
 have hi:zhy N s=some (z1ck s 0):=by
  rw[zhy,zmi];refine (z65 (fun w=>∃ i:Nat,w=(i:Int)/\i<=s.length) (fun w=>s.length - w.toNat) (fun w=>some (z1ck (s.drop w.toNat) w.toNat)) ?_ N 0 ⟨0,rfl,by omega⟩ (by omega)).trans (by rfl);rintro w r ⟨i,rfl,hi⟩ hr;simp only[Int.toNat_natCast];rw[zgh];by_cases hlt:i<s.length
  . rw[zn (decide_eq_true (by omega)),zn (z28 hlt),Int.toNat_natCast,z2c s z29 i hlt,z1ck,z1o (by omega),hr _ ⟨i+1,rfl,by omega⟩ (by omega),Int.toNat_natCast];rw[show (([]:List UInt8),(([]:List ((List UInt8)×((List UInt8)×Unit))),(([]:List UInt8),())))=z29 from rfl,zsj];by_cases h:64<(s.getD i z29).2.1.length
    . rw[zn (decide_eq_true (by omega)),decide_eq_true h,if_pos rfl]
    . rw[z1i (decide_eq_false (by omega)),decide_eq_false h,if_neg (by simp)]
  . rw[z1i (decide_eq_false (by omega)),z4u _ (by omega),z1ck]
 rw[z8r,hi,Option.bind_some,zx6]
def zfs (b:zan):Bool:=decide (b.2.1.length<=8) && !((b.1::b.2.1).any zsj)
theorem zrb (N:Nat){b:zan}(hb:b.2.1.length<=1000):z3u N b=some (b.1::b.2.1):=by
 rw[z3u,zn (decide_eq_true (by omega))];rfl
theorem ztw (N:Nat)(hN:1000<N)(b:zan):z5e N b=some (zfs b):=by
 rw[z5e,zfs];by_cases h:b.2.1.length<=8
 . rw[z1i (decide_eq_false (by omega)),zrb N (by omega),Option.bind_some,zo0 N (by simp only[List.length_cons];omega) hN,Option.bind_some,decide_eq_true h,Bool.true_and]
 . rw[zn (decide_eq_true (by omega)),decide_eq_false h,Bool.false_and]
structure FairT (t:Tk):Prop where
 id:t.1.length<=4200
 tag:t.2.2.1.length<=100
 len:t.2.1.length<=70
 links:∀ l∈t.2.1,zik l
structure FairB (b:zan):Prop where
 one:FairT b.1
 more:∀ t∈b.2.1,FairT t
 len:b.2.1.length<=10
theorem z1cn {b:zan}(h:FairB b)(hw:zfs b=true):GoodB b:=by
 unfold zfs at hw;rw[Bool.and_eq_true,decide_eq_true_eq,Bool.not_eq_true',List.any_eq_false] at hw;have hl:∀ t∈b.1::b.2.1,t.2.1.length<=64:=by
  intro t ht;have:=hw.2 t ht;unfold zsj at this;simp at this;exact this
 exact⟨⟨h.one.id,h.one.tag,hl _ List.mem_cons_self,h.one.links⟩,fun t ht=>⟨(h.more t ht).id,(h.more t ht).tag,hl t (List.mem_cons_of_mem _ ht),(h.more t ht).links⟩,hw.1⟩
def z1f3 (t:Tk):Nat:=t.2.1.length+1+z6f t.2.1
theorem z1a5 (N:Nat){x12:List Tk}{x13 x14:Int}{ls:List Lk}{m:Nat}(hm:m<=100000)(hl:ls.length<=100)(hN:200<N)(k0:Int->Option Int) :
 z9c N ((m:Nat):Int) x12 x13 x14 ls ((ls.length:Nat):Int) 0 k0=k0 ((m+z6f ls:Nat):Int):=by
 rw[z9c];refine (zae (γ:=Nat×Nat) (fun g v=>v=(((g.1:Nat):Int),((g.2:Nat):Int))/\g.2<=ls.length/\g.1<=100000+g.2) (fun v=>ls.length - v.2.toNat) (fun g=>k0 ((g.1+z6f (ls.drop g.2):Nat):Int)) ?_ N (m,0) (((m:Nat):Int),0) ⟨rfl,by omega,by simp only;omega⟩ (by simp only;omega)).trans (by rfl);rintro⟨c,j⟩ v r ⟨rfl,hj,hc⟩ hr;simp only at hj hc;simp only;rw[z9a];by_cases hlt:j<ls.length
 . rw[zn (decide_eq_true (by omega)),zn (z28 hlt),Int.toNat_natCast,z10y,z2c ls ([],[],()) j hlt,zat];by_cases h:(ls.getD j ([],[],())).2.1=[]
   . rw[decide_eq_true h,Bool.not_true,cond_false,if_pos h,z1o (by omega)];refine (hr (c,j+1) _ ⟨rfl,by simp only;omega,by simp only;omega⟩ (by simp only;omega)).trans ?_;simp only[Nat.zero_add]
   . rw[decide_eq_false h,Bool.not_false,cond_true,if_neg h,z1o (by omega),z1o (by omega)];refine (hr (c+1,j+1) _ ⟨rfl,by simp only;omega,by simp only;omega⟩ (by simp only;omega)).trans ?_;simp only[Nat.add_assoc]
 . rw[z1i (decide_eq_false (by omega)),z4u _ (by omega)];rfl
theorem z157 (N:Nat){all:List Tk}{m:Nat}(hm:m<=1000)(ha:all.length<=20)(hl:∀ t∈all,t.2.1.length<=100)(hN:200<N)(k0:Int->Option Int) :
 z9d N ((m:Nat):Int) all ((all.length:Nat):Int) 0 k0=k0 ((m+(all.map z1f3).sum:Nat):Int):=by
 rw[z9d];refine (zae (γ:=Nat×Nat) (fun g v=>v=(((g.1:Nat):Int),((g.2:Nat):Int))/\g.2<=all.length/\g.1<=1000+201*g.2) (fun v=>all.length - v.2.toNat) (fun g=>k0 ((g.1+((all.drop g.2).map z1f3).sum:Nat):Int)) ?_ N (m,0) (((m:Nat):Int),0) ⟨rfl,by omega,by simp only;omega⟩ (by simp only;omega)).trans (by rfl);rintro⟨c,j⟩ v r ⟨rfl,hj,hc⟩ hr;simp only at hj hc;simp only;rw[z9b];by_cases hlt:j<all.length
 . have h1:=hl _ (z6s all z29 j hlt);have h2:=zl7 (all.getD j z29).2.1;rw[zn (decide_eq_true (by omega)),zn (z28 hlt),Int.toNat_natCast,show (([]:List UInt8),(([]:List ((List UInt8)×((List UInt8)×Unit))),(([]:List UInt8),())))=z29 from rfl];rw[z2j (x:=(((all.getD j z29).2.1.length:Nat):Int)+1) (by unfold I64;omega),z2j (x:=((c:Nat):Int)+((((all.getD j z29).2.1.length:Nat):Int)+1)) (by unfold I64;omega)];rw[show ((c:Nat):Int)+((((all.getD j z29).2.1.length:Nat):Int)+1)=((c+((all.getD j z29).2.1.length+1):Nat):Int) by omega,z1a5 N (by omega) h1 hN,z1o (by omega),z2c all z29 j hlt];refine (hr (c+((all.getD j z29).2.1.length+1)+z6f (all.getD j z29).2.1,j+1) _ ⟨rfl,by simp only;omega,by simp only;omega⟩ (by simp only;omega)).trans ?_;simp only[List.map_cons,List.sum_cons];congr 2;unfold z1f3;omega
 . rw[z1i (decide_eq_false (by omega)),z4u _ (by omega)];rfl
theorem zwz:∀ ts:List Tk,(ts.map zz2).sum=(ts.map z1f3).sum+ts.length
 | []=>rfl
 | t::ts=>by
   rw[List.map_cons,List.sum_cons,zwz ts,List.map_cons,List.sum_cons,List.length_cons];unfold zz2 z1f3;omega
theorem z1a6 (N:Nat)(hN:200<N){b:zan}(hb:FairB b):z7y N b=some ((zm9 b:Nat):Int):=by
 have h10:=hb.len;have hl:∀ t∈b.1::b.2.1,t.2.1.length<=100:=by
  intro t ht;rcases List.mem_cons.1 ht with rfl|ht
  . have:=hb.one.len;omega
  . have:=(hb.more t ht).len;omega
 rw[z7y,zrb N (by omega),Option.bind_some,z157 N (by omega) (by simp only[List.length_cons];omega) hl hN];congr 2;rw[List.map_cons,List.sum_cons];unfold zm9;rw[zwz];unfold z1f3;omega
theorem zyd (k:Nat)(hk:600<=k){key:List UInt8}{b:zan}(hb:GoodB b)(hl:key.length<=30000):(zor (k+100) key b).1.work<=zm9 b:=by
 unfold zor;split
 . exact (zm4 k hk hb 20 0 _ (z108 k hk hb hl)).1
 . unfold stA zm9;simp only;omega
end
end Go.Proofs.YthdblfmolchhpaaGreatDoorLg
set_option linter.all false
namespace Go.Proofs.YthdblfmolchhpaaGreatDoorPx
noncomputable section
open Go Go.Lift
def zoq:Nat->Nat->List UInt8
 | 0,n=>[UInt8.ofNat n]
 | f+1,n=>if n<128 then [UInt8.ofNat n] else UInt8.ofNat (n % 128+128)::zoq f (n / 128)
def zio (n:Nat):List UInt8:=zoq 9 n
theorem zs6:∀ (f:Nat) (n:Nat),n<128^(f+1)->zoq (f+1) n=zoq f n
 | 0,n,h=>by
   simp only[zoq];rw[if_pos (by simpa using h)]
 | f+1,n,h=>by
   have hp:(128:Nat)^(f+2)=128*128^(f+1):=by rw[Nat.pow_succ,Nat.mul_comm]
   have e:zoq (f+1+1) n=if n<128 then [UInt8.ofNat n] else UInt8.ofNat (n % 128+128)::zoq (f+1) (n / 128):=rfl
   rw[e];have e2:zoq (f+1) n=if n<128 then [UInt8.ofNat n] else UInt8.ofNat (n % 128+128)::zoq f (n / 128):=rfl
   rw[e2,zs6 f (n / 128) (by omega)]
theorem z10r {n:Nat}(h:n<18446744073709551616):zio n=if n<128 then [UInt8.ofNat n] else UInt8.ofNat (n % 128+128)::zio (n / 128):=by
 have e:zoq 9 n=if n<128 then [UInt8.ofNat n] else UInt8.ofNat (n % 128+128)::zoq 8 (n / 128):=rfl
 unfold zio;rw[e,zs6 8 (n / 128) (by have:(128:Nat)^9=9223372036854775808:=(by decide);omega)]
theorem zpw:∀ (f n:Nat),1<=(zoq f n).length/\(zoq f n).length<=f+1
 | 0,_=>by simp[zoq]
 | f+1,n=>by
   have:=zpw f (n / 128);simp only[zoq];split
   . simp
   . simp only[List.length_cons];omega
theorem z7k (n:Nat):1<=(zio n).length/\(zio n).length<=10:=zpw 9 n
def val:List UInt8->Nat
 | []=>0
 | b::r=>b.toNat % 128+128*val r
def z17c:List UInt8->Nat
 | []=>0
 | b::r=>if 128<=b.toNat then z17c r+1 else 0
def zxw (s:List UInt8):Nat×Nat×Int :=
 if 10<=z17c s then (0,0,2)
 else if z17c s=s.length then (0,0,1)
 else if (0<z17c s/\(s.getD (z17c s) 0).toNat=0)\/(z17c s=9/\1<(s.getD 9 0).toNat) then (0,0,2)
 else (val (s.take (z17c s+1)),z17c s+1,0)
end
end Go.Proofs.YthdblfmolchhpaaGreatDoorPx
set_option linter.all false
namespace Go.Proofs.YthdblfmolchhpaaGreatDoorLg
noncomputable section
open Go Go.Lift Go.Proofs.YthdblfmolchhpaaGreatDoorPx
theorem shr7 (n:Nat):z8w .u64 ((n:Nat):Int) 7=((n / 128:Nat):Int):=by
 have:z8w .u64 ((n:Nat):Int) 7=((n:Nat):Int).fdiv 128:=rfl;rw[this,Int.fdiv_eq_ediv_of_nonneg _ (by omega)];rfl
theorem or128:∀ m,m<256->zr .or .u8 ((m:Nat):Int) 128=((m % 128+128:Nat):Int):=by decide +kernel
theorem ztr:∀ m,m<256->zr .andNot .u8 ((m:Nat):Int) 128=((m % 128:Nat):Int):=by decide +kernel
def szc (n:Nat):Nat:=if n=0 then 0 else (zio n).length
theorem z103 (n:Nat):szc n<=10:=by
 unfold szc;split
 . omega
 . exact (z7k n).2
theorem zhh {n:Nat}(h:n<18446744073709551616):(zio n).length=1+szc (n / 128):=by
 rw[z10r h];unfold szc;split
 . rw[if_pos (by omega)];rfl
 . rw[if_neg (by omega),List.length_cons,Nat.add_comm]
theorem z19n (N:Nat)(hN:10<N){n:Nat}(h:n<18446744073709551616):z7z N (n:Int)=some (((zio n).length:Nat):Int):=by
 simp only[z7z,zey,shr7];rw[z65 (I:=fun (v:Int×Int)=>∃ (m k:Nat),v=((m:Int),(k:Int))/\m<18446744073709551616/\k<=100 - szc m) (m:=fun (v:Int×Int)=>szc v.1.toNat)
  (R:=fun (v:Int×Int)=>some (v.2+((szc v.1.toNat:Nat):Int))) ?_ N (((n / 128:Nat):Int),1) ⟨n / 128,1,rfl,by omega,by have:=z103 (n / 128);omega⟩ (by have:=z103 (n / 128);dsimp only;rw[Int.toNat_natCast];omega)]
 . dsimp only;rw[Int.toNat_natCast,zhh h];congr 1
 rintro v r ⟨m,k,rfl,hm,hk⟩ hr;dsimp only at *;simp only[z9e,shr7,Int.toNat_natCast] at *;have hs:=z103 m;by_cases h0:m=0
 . subst h0;rw[z1i (by rfl)];simp[szc]
 . have e:szc m=1+szc (m / 128):=by
    rw[<- zhh hm];unfold szc;rw[if_neg h0]
   rw[zn (by simp;omega),z1o (by omega),hr _ ⟨m / 128,k+1,rfl,by omega,by omega⟩ (by rw[Int.toNat_natCast];omega)];simp only[Int.toNat_natCast,e];congr 1;omega
def zxg:Nat->Nat->List Int
 | 0,_=>[]
 | k+1,m=>((m % 128+128:Nat):Int)::zxg k (m / 128)
theorem zmq:∀ k m,(zxg k m).length=k
 | 0,_=>rfl
 | k+1,m=>by simp[zxg,zmq k]
theorem zxf:∀ (f n k:Nat),(zoq f n).length=k+1->n<128^(f+1)->z2e ((zxg (k+1) n).set k (zr .andNot .u8 ((zxg (k+1) n).getD k 0) 128))=zoq f n
 | 0,n,k,h,hn=>by
   have hk:k=0:=by simpa[zoq] using h.symm
   subst hk;have hn:n<128:=by simpa using hn
   simp only[zxg,List.getD_cons_zero,List.set_cons_zero,zoq];rw[ztr _ (by omega)];simp only[z2e,List.map_cons,List.map_nil,Int.toNat_natCast];congr 2;omega
 | f + 1,n,k,h,hn=>by
   have hp:(128:Nat)^(f+2)=128*128^(f+1):=by rw[Nat.pow_succ,Nat.mul_comm]
   simp only[zoq] at h ⊢;by_cases h1:n<128
   . rw[if_pos h1] at h ⊢;have hk:k=0:=by simpa using h.symm
     subst hk;simp only[zxg,List.getD_cons_zero,List.set_cons_zero];rw[ztr _ (by omega)];simp only[z2e,List.map_cons,List.map_nil,Int.toNat_natCast];congr 2;omega
   . rw[if_neg h1] at h ⊢;obtain⟨j,rfl⟩:∃ j,k=j+1:=⟨k - 1,by have:=(zpw f (n / 128)).1;simp at h;omega⟩
     have ih:=zxf f (n / 128) j (by simpa using h) (by omega);have e:zxg (j+1+1) n=((n % 128+128:Nat):Int)::zxg (j+1) (n / 128):=rfl;rw[e,List.getD_cons_succ,List.set_cons_succ];have e2:∀ (x:Int) (l:List Int),z2e (x::l)=UInt8.ofNat x.toNat::z2e l:=fun _ _=>rfl
     rw[e2,ih,Int.toNat_natCast]
theorem z177 (N:Nat)(hN:20<N){n:Nat}(h:n<18446744073709551616):z7r N (n:Int)=some (zio n):=by
 have hl:=z7k n;simp only[z7r,z19n N (by omega) h,Option.bind_some];rw[zn (z2z ⟨by omega,by omega,by omega,by omega⟩)];simp only[zgu,Int.toNat_natCast];generalize hL:(zio n).length=L at *;have hend:∀ out:List Int,out=zxg L n->(cond (inR (IntKind.wrap .i64 (((L:Nat):Int) - 1)) out.length) (cond (decide ((IntKind.wrap .i64 (((L:Nat):Int) - 1)).toNat<out.length)) (cond (inR (IntKind.wrap .i64 (((L:Nat):Int) - 1)) out.length) (cond (decide ((IntKind.wrap .i64 (((L:Nat):Int) - 1)).toNat<out.length)) (some (z2e (out.set (IntKind.wrap .i64 (((L:Nat):Int) - 1)).toNat (zr .andNot .u8 (out.getD (IntKind.wrap .i64 (((L:Nat):Int) - 1)).toNat 0) 128)))) none) none) none) none)=some (zio n):=by
  intro out ho;subst ho;have e:IntKind.wrap .i64 (((L:Nat):Int) - 1)=((L - 1:Nat):Int):=by rw[z2j (by unfold I64;omega)];omega
  rw[e,Int.toNat_natCast,zmq,zn (z28 (by omega)),zn (z2z (by omega)),zn (z28 (by omega)),zn (z2z (by omega))];obtain⟨k,rfl⟩:∃ k,L=k+1:=⟨L - 1,by omega⟩
  have:=zxf 9 n k hL (by have:(128:Nat)^10=1180591620717411303424:=(by decide);omega);rw[Nat.add_sub_cancel,this];rfl
 rw[z65 (I:=fun (v:Int×List Int×Int)=>∃ (m i:Nat),v.1=(m:Int)/\v.2.2=(i:Int)/\m<18446744073709551616/\i<=L/\v.2.1.length=L/\v.2.1.take i++zxg (L - i) m=zxg L n) (m:=fun (v:Int×List Int×Int)=>L - v.2.2.toNat)
  (R:=fun _=>some (zio n)) ?_ N _ ⟨n,0,rfl,rfl,h,by omega,by simp,by simp⟩ (by simp;omega)]
 rintro⟨x,out,y⟩ r ⟨m,i,h1,h2,hm,hi,ho,hd⟩ hr;dsimp only at *;subst h1;subst h2;simp only[zap,Int.toNat_natCast] at *;by_cases hlt:i<L
 . have hw:IntKind.wrap .u8 (m:Int)=((m % 256:Nat):Int):=by rw[ztv];omega
   rw[zn (z2z (by omega)),zn (z28 (by omega)),zn (z2z (by omega)),shr7,hw,or128 _ (by omega),z1o (by omega)];refine hr _ ⟨m / 128,i+1,rfl,rfl,by omega,by omega,by simpa using ho,?_⟩ (by dsimp only;rw[Int.toNat_natCast];omega);rw[zgz _ _ _ (by omega),List.append_assoc,<- hd];congr 1;obtain⟨k,hk⟩:∃ k,L - i=k+1:=⟨L - i - 1,by omega⟩
   rw[hk,show L - (i+1)=k by omega];simp only[zxg,List.cons_append,List.nil_append,show m % 256 % 128=m % 128 by omega]
 . have:i=L:=by omega
   subst this;rw[z1i (z9q (by omega))];refine hend out ?_;rw[Nat.sub_self,List.take_of_length_le (by omega)] at hd;simpa[zxg] using hd
theorem zjg {n:Nat}(h:n<18446744073709551616):IntKind.wrap .u64 ((n:Nat):Int)=((n:Nat):Int):=by
 simp only[IntKind.wrap,IntKind.bits,IntKind.signed,Bool.false_and,Bool.false_eq_true,if_false];omega
end
end Go.Proofs.YthdblfmolchhpaaGreatDoorLg
set_option linter.all false
set_option maxRecDepth 100000
namespace Go.Proofs.YthdblfmolchhpaaGreatDoorLg
noncomputable section
open Go Go.Lift Go.Proofs.YthdblfmolchhpaaGreatDoorPx
theorem z13k {n:Nat}(h:n<=1000000):Go.IntKind.wrap .u64 (n:Int)=(n:Int):=zjg (by omega)
theorem zi1 (N:Nat)(hN:20<N){t:List UInt8}(ht:t.length<=1000000):z1k N t=some (zio t.length++t):=by
 have:=z7k t.length;rw[z1k,z13k ht,z177 N hN (by omega)];simp only[Option.bind_some];rw[zn (decide_eq_true (by omega))]
theorem z128 (N:Nat)(hN:20<N){n:Nat}(hn:n<18446744073709551616):z1z N (n:Int)=some (zio n):=by
 rw[z1z,z177 N hN hn];rfl
abbrev z16t:=List UInt8×(List UInt8×Unit)
abbrev zr6:=List UInt8×(List z16t×(List UInt8×Unit))
def zuo (l:z16t):Bool:=if l.2.1=[] then decide (2048<l.1.length) else decide (4144<l.1.length) || decide (4144<l.2.1.length)
def zuf (t:List UInt8):List UInt8:=zio t.length++t
def z1f6 (l:z16t):List UInt8:=if l.2.1=[] then (0:UInt8)::zuf l.1 else (1:UInt8)::(zuf l.1++zuf l.2.1)
def zi3:List z16t->List UInt8
 | []=>[]
 | l::ls=>z1f6 l++zi3 ls
def z13g (t:zr6):List UInt8:=zuf t.1++(zio t.2.1.length++zi3 t.2.1)
def z182 (t:zr6):Int:=if 64<t.2.1.length then 3 else if t.2.1.any zuo then 3 else if 4144<t.1.length then 3 else 0
def zkb (t:zr6):Int:=if z182 t≠0 then z182 t else if t.2.2.1.length≠32 then 7 else 0
def putT (t:zr6):List UInt8×Int×Unit:=if zkb t≠0 then ([],zkb t,()) else (z13g t++t.2.2.1,0,())
def vE (c:Int):Value:=if c=0 then .nilIface else eV c
theorem zzt (c:Int):zhu (vE c)=true:=by unfold vE;split<;>rfl
theorem zzs (c:Int):zff (vE c)=decide (c=0):=by
 unfold vE;by_cases h:c=0
 . rw[if_pos h,decide_eq_true h];rfl
 . rw[if_neg h,decide_eq_false h];rfl
theorem z18g (N:Nat)(c:Int):zcx N (vE c)=some c:=by
 unfold vE;by_cases h:c=0
 . rw[if_pos h,h];rfl
 . rw[if_neg h];rfl
theorem zgs (N:Nat)(s:List UInt8)(m:Int):z33 N s m=some (vE (if m<(s.length:Int) then 3 else 0)):=by
 rw[z33];by_cases h:m<(s.length:Int)
 . rw[zn (decide_eq_true h),if_pos h];rfl
 . rw[z1i (decide_eq_false h),if_neg h];rfl
theorem zt8 (N:Nat)(l:z16t):z3l N l=some (vE (if zuo l then 3 else 0)):=by
 rw[z3l,zgs,zgs,zgs];simp only[Option.bind_some,zzt,zzs,cond_true];unfold zuo;by_cases h:l.2.1=[]
 . rw[zn (by rw[h];rfl),if_pos h];by_cases h1:2048<l.1.length
   . rw[if_pos (by omega),if_pos (decide_eq_true h1)]
   . rw[if_neg (by omega),if_neg (by simpa using h1)]
 . rw[z1i (beq_eq_false_iff_ne.2 h),if_neg h];by_cases h1:4144<l.1.length
   . rw[if_pos (by omega),zn (by rfl),if_pos (by simp[h1])]
   . rw[if_neg (by omega),z1i (by rfl)];by_cases h2:4144<l.2.1.length
     . rw[if_pos (by omega),if_pos (by simp[h2])]
     . rw[if_neg (by omega),if_neg (by simp[h1,h2])]
theorem zz6 (N:Nat)(t:zr6)(l:List z16t)(hl:l.length<N)(hl':l.length<=1000000)(K:Option Value) :
 z5g N t l ((l.length:Nat):Int) 0 (fun x2=>some x2) K=cond (l.any zuo) (some (vE 3)) K:=by
 rw[z5g];refine (z65 (fun v=>∃ i:Nat,v=(i:Int)/\i<=l.length) (fun v=>((l.length:Int) - v).toNat) (fun v=>cond ((l.drop v.toNat).any zuo) (some (vE 3)) K) ?_ N 0 ⟨0,rfl,by omega⟩ (by omega)).trans (by rfl);rintro _ r ⟨i,rfl,hi⟩ hr;simp only[Int.toNat_natCast];rw[z5f];by_cases hlt:i<l.length
 . rw[zn (decide_eq_true (by omega)),zn (z28 hlt),Int.toNat_natCast,z2c l (([]:List UInt8),(([]:List UInt8),())) i hlt,zt8,Option.bind_some,zzt,cond_true,zzs];generalize l.getD i (([]:List UInt8),(([]:List UInt8),()))=v;simp only[List.any_cons];cases hv:zuo v with
   | true=>rfl
   | false =>
     rw[z1o (by omega),hr _ ⟨i+1,rfl,by omega⟩ (by omega)];rfl
 . rw[z1i (decide_eq_false (by omega)),z4u l (by omega)];rfl
theorem zt9 (N:Nat)(hN:100<N)(t:zr6):z3m N t=some (vE (z182 t)):=by
 rw[z3m];unfold z182;by_cases h:64<t.2.1.length
 . rw[zn (decide_eq_true (by omega)),if_pos h];rfl
 . rw[z1i (decide_eq_false (by omega)),if_neg h,zz6 N t _ (by omega) (by omega),zgs,Option.bind_some];cases h1:t.2.1.any zuo with
   | true=>rfl
   | false =>
     rw[cond_false,if_neg (show ¬ (false=true) by simp)];by_cases h2:4144<t.1.length
     . rw[if_pos (by omega),if_pos h2]
     . rw[if_neg (by omega),if_neg h2]
theorem z101 (N:Nat)(hN:100<N)(t:zr6):z83 N t=some (vE (zkb t)):=by
 rw[z83,zt9 N hN,Option.bind_some,zzt,cond_true,zzs];unfold zkb;by_cases h:z182 t=0
 . rw[z1i (by rw[h];rfl),if_neg (by simpa using h)];by_cases h1:t.2.2.1.length=32
   . rw[z1i (by rw[h1];rfl),if_neg (by simpa using h1)];rfl
   . rw[zn (by rw[bne_iff_ne];omega),if_pos h1];rfl
 . rw[zn (by rw[decide_eq_false h];rfl),if_pos h]
def Sz (t:zr6):Prop:=t.1.length<=6000/\t.2.1.length<=70/\(∀ l∈t.2.1,l.1.length<=6000/\l.2.1.length<=6000)/\t.2.2.1.length<=6000
theorem zb5 (t:List UInt8):(zuf t).length<=10+t.length:=by
 have:=(z7k t.length).2;unfold zuf;rw[List.length_append];omega
theorem z15u {l:z16t}(h:l.1.length<=6000/\l.2.1.length<=6000):(z1f6 l).length<=12021:=by
 have h1:=zb5 l.1;have h2:=zb5 l.2.1;unfold z1f6;split<;>simp only[List.length_cons,List.length_append]<;>omega
theorem z16z (N:Nat){o:List UInt8}(b:UInt8)(h:o.length+1<=1000000):z1h N ((),(z1u o,())) ((b.toNat:Nat):Int)=some (Go.Value.nilIface,(((),(z1u (o++[b]),())),())):=by
 rw[z1h];simp only[ofStr_length];rw[zn (decide_eq_true (by omega))];simp[z1u]
theorem zzr (N:Nat){o s:List UInt8}(h:o.length+s.length<=1000000):zh N ((),(z1u o,())) s=some ((((s.length:Nat):Int),(Go.Value.nilIface,())),(((),(z1u (o++s),())),())):=by
 rw[zh];simp only[ofStr_length];rw[zn (decide_eq_true (by omega))];simp[z1u]
theorem z153 (s:List UInt8):ziw (z1u s)=true:=by
 unfold ziw z1u;rw[List.all_map,List.all_eq_true];intro b _;have:=b.toNat_lt;simp only[Function.comp,Bool.and_eq_true,decide_eq_true_eq];omega
theorem z12u (N:Nat)(hN:100<N)(l:List z16t)(hl:l.length<=70)(hz:∀ x∈l,x.1.length<=6000/\x.2.1.length<=6000)(out:List UInt8)(ho:out.length<=7000) :
 zas N ((),(z1u out,())) l ((l.length:Nat):Int) 0 (fun out=>(zii (out,())).bind fun y4=>some y4.1)=some (out++zi3 l):=by
 rw[zas];refine (z65 (fun v=>∃ i:Nat,∃ o:List UInt8,v.1=((),(z1u o,()))/\v.2=(i:Int)/\i<=l.length/\o.length<=7000+12100*i) (fun v=>((l.length:Int) - v.2).toNat) (fun v=>some (z2e v.1.2.1++zi3 (l.drop v.2.toNat))) ?_ N (((),(z1u out,())),0) ⟨0,out,rfl,rfl,by omega,by simpa using ho⟩ (by simp only;omega)).trans (by simp only[toStr_ofStr];rfl);rintro⟨o,i⟩ r ⟨i,o,rfl,rfl,hi,hlen⟩ hr;try simp only at hlen
 simp only[Int.toNat_natCast,toStr_ofStr];rw[zar];by_cases hlt:i<l.length
 . rw[zn (decide_eq_true (by omega)),zn (z28 hlt),Int.toNat_natCast,z2c l (([]:List UInt8),(([]:List UInt8),())) i hlt];have hv:(l.getD i (([]:List UInt8),(([]:List UInt8),()))).1.length<=6000/\(l.getD i (([]:List UInt8),(([]:List UInt8),()))).2.1.length<=6000:=hz _ (by
    rw[List.getD_eq_getElem?_getD,List.getElem?_eq_getElem hlt,Option.getD_some];exact List.getElem_mem hlt)
   generalize l.getD i (([]:List UInt8),(([]:List UInt8),()))=v at hv ⊢;have h1:=zb5 v.1;have h2:=zb5 v.2.1;have b0:=z16z N (o:=o) 0 (by omega);have b1:=z16z N (o:=o) 1 (by omega);rw[show (((0:UInt8).toNat:Nat):Int)=0 from rfl] at b0;rw[show (((1:UInt8).toNat:Nat):Int)=1 from rfl] at b1;by_cases he:v.2.1=[]
   . rw[zn (by rw[he];rfl),b0,Option.bind_some,zi1 N (by omega) (by omega),Option.bind_some];simp only;rw[show zio v.1.length++v.1=zuf v.1 from rfl,zzr N (by simp only[List.length_append,List.length_cons,List.length_nil];omega),Option.bind_some,z1o (by omega)];simp only;rw[hr _ ⟨i+1,_,rfl,rfl,by omega,by simp only[List.length_append,List.length_cons,List.length_nil];omega⟩ (by simp only;omega)];simp only[Int.toNat_natCast,toStr_ofStr,zi3,z1f6,if_pos he,List.append_assoc,List.cons_append,List.nil_append]
   . rw[z1i (beq_eq_false_iff_ne.2 he),b1,Option.bind_some,zi1 N (by omega) (by omega),Option.bind_some];simp only;rw[show zio v.1.length++v.1=zuf v.1 from rfl,zzr N (by simp only[List.length_append,List.length_cons,List.length_nil];omega),Option.bind_some,zi1 N (by omega) (by omega),Option.bind_some];simp only;rw[show zio v.2.1.length++v.2.1=zuf v.2.1 from rfl,zzr N (by simp only[List.length_append,List.length_cons,List.length_nil];omega),Option.bind_some,z1o (by omega)];simp only;rw[hr _ ⟨i+1,_,rfl,rfl,by omega,by simp only[List.length_append,List.length_cons,List.length_nil];omega⟩ (by simp only;omega)];simp only[Int.toNat_natCast,toStr_ofStr,zi3,z1f6,if_neg he,List.append_assoc,List.cons_append,List.nil_append]
 . rw[z1i (decide_eq_false (by omega)),z4u l (by omega),zi3];simp only[zii];rw[z153,Bool.true_and,zn (decide_eq_true (by rw[ofStr_length];omega)),toStr_ofStr,List.append_nil];rfl
theorem z1cw (N:Nat)(hN:100<N){t:zr6}(h:Sz t):z9w N t=some (z13g t):=by
 obtain⟨h1,h2,h3,h4⟩:=h;have hx:=zb5 t.1;have hp:=z7k t.2.1.length;rw[z9w,zi1 N (by omega) (by omega),Option.bind_some];have hw:=zzr N (o:=[]) (s:=zuf t.1) (by simp only[List.length_nil];omega);rw[show (z1u []:List Int)=[] from rfl] at hw;rw[show zio t.1.length++t.1=zuf t.1 from rfl,hw,Option.bind_some,zjg (by omega),z128 N (by omega) (by omega),Option.bind_some];simp only;rw[zzr N (by simp only[List.length_nil,List.nil_append];omega),Option.bind_some];simp only;rw[z12u N hN _ h2 h3 _ (by simp only[List.length_append,List.length_nil];omega)];simp only[z13g,List.nil_append,List.append_assoc]
theorem zt1:∀ {l:List z16t},(∀ x∈l,x.1.length<=6000/\x.2.1.length<=6000)->(zi3 l).length<=12021*l.length
 | [],_=>by simp[zi3]
 | x::l,h=>by
   have h1:=z15u (h x (List.mem_cons_self ..));have h2:=zt1 (l:=l) (fun y hy=>h y (List.mem_cons_of_mem _ hy));simp only[zi3,List.length_append,List.length_cons];omega
theorem zqj {t:zr6}(h:Sz t):(z13g t).length<=900000:=by
 obtain⟨h1,h2,h3,h4⟩:=h;have hx:=zb5 t.1;have hp:=z7k t.2.1.length;have hl:=zt1 h3;unfold z13g;simp only[List.length_append];omega
theorem z19c (N:Nat)(hN:100<N){t:zr6}(h:Sz t):z9x N t=some (putT t):=by
 have hl:=zqj h;have h4:=h.2.2.2;rw[z9x,z101 N hN,Option.bind_some,z18g,Option.bind_some];unfold putT;by_cases hb:zkb t=0
 . rw[z1i (by rw[hb];rfl),if_neg (by simpa using hb),z1cw N hN h,Option.bind_some,zn (decide_eq_true (by omega))]
 . rw[zn (by rw[bne_iff_ne];exact hb),if_pos hb]
def zzk (t:zr6):List UInt8:=zuf (z13g t++t.2.2.1)
def zja:List zr6->List UInt8
 | []=>[]
 | t::ts=>zzk t++zja ts
def z130:List zr6->Int
 | []=>0
 | t::ts=>if zkb t≠0 then zkb t else z130 ts
def z176 (b:zan):List UInt8×Int×Unit :=
 if 8<b.2.1.length then ([],3,()) else if zkb b.1≠0 then ([],zkb b.1,()) else if z130 b.2.1≠0 then ([],z130 b.2.1,()) else (zzk b.1++(zio b.2.1.length++zja b.2.1),0,())
def z178 (b:zan):List UInt8×Int×Unit:=if (z176 b).2.1≠0 then z176 b else if 65536<(z176 b).1.length then ([],3,()) else z176 b
def SzB (b:zan):Prop:=Sz b.1/\∀ t∈b.2.1,Sz t
theorem zxe {t:zr6}(h:Sz t):(zzk t).length<=910000:=by
 have h1:=zqj h;have h2:=zb5 (z13g t++t.2.2.1);have h3:=h.2.2.2;unfold zzk;rw[List.length_append] at h2;omega
theorem zt3:∀ {l:List zr6},(∀ t∈l,Sz t)->(zja l).length<=910000*l.length
 | [],_=>by simp[zja]
 | t::ts,h=>by
   have h1:=zxe (h t (List.mem_cons_self ..));have h2:=zt3 (fun x hx=>h x (List.mem_cons_of_mem _ hx));simp only[zja,List.length_append,List.length_cons];omega
theorem zrg (N:Nat)(hN:100<N){t:zr6}(h:Sz t):ze9 N t=some (if zkb t=0 then ((0:Int),zzk t) else (zkb t,[])):=by
 unfold ze9;have h1:=zqj h;have h3:=h.2.2.2;rw[z19c N hN h,Option.bind_some];unfold putT;by_cases hb:zkb t=0
 . rw[if_neg (show ¬ zkb t≠0 by simpa using hb),if_pos hb];dsimp only;rw[if_pos rfl,zi1 N (by omega) (by rw[List.length_append];omega),Option.bind_some];rfl
 . rw[if_pos hb,if_neg hb];dsimp only;rw[if_neg hb]
theorem zra (N:Nat)(hN:100<N):∀ {l:List zr6},(∀ t∈l,Sz t)->∃ r,z90 N l=some r/\r.1=z130 l/\(z130 l=0->r.2.flatten=zja l)
 | [],_=>⟨_,rfl,rfl,fun _=>rfl⟩
 | t :: ts,h=>by
   obtain⟨r,h1,h2,h3⟩:=zra N hN (fun x hx=>h x (List.mem_cons_of_mem _ hx));rw[z90,zrg N hN (h t (List.mem_cons_self ..)),Option.bind_some,z130];by_cases hb:zkb t=0
   . rw[if_pos hb,if_neg (show ¬ zkb t≠0 by simpa using hb)];dsimp only;rw[if_pos rfl,h1,Option.bind_some];refine⟨_,rfl,h2,fun h0=>?_⟩;dsimp only;rw[List.flatten_cons,h3 h0];rfl
   . rw[if_neg hb,if_pos hb];dsimp only;rw[if_neg hb];exact⟨_,rfl,rfl,fun h0=>absurd h0 hb⟩
theorem z1cv (N:Nat) (hN:100<N) {b:zan} (h:SzB b):z6a N b=some (z178 b):=by
 obtain⟨h1,h2⟩:=h;unfold z6a z178 z176;by_cases h8:8<b.2.1.length
 . rw[if_pos h8,if_pos h8,if_pos (by decide)]
 rw[if_neg h8,if_neg h8];unfold zu5;rw[zrg N hN h1,Option.bind_some];by_cases hb:zkb b.1=0
 . rw[if_pos hb,if_neg (show ¬ zkb b.1≠0 by simpa using hb)];dsimp only;rw[if_pos rfl,z128 N (by omega) (by omega),Option.bind_some];obtain⟨r,k1,k2,k3⟩:=zra N hN h2;rw[k1,Option.bind_some,Option.bind_some];dsimp only;rw[k2];by_cases hm:z130 b.2.1=0
   . rw[if_pos hm,if_neg (show ¬ z130 b.2.1≠0 by simpa using hm)];have e:(zzk b.1::zio b.2.1.length::r.2).flatten=zzk b.1++(zio b.2.1.length++zja b.2.1):=by
      rw[List.flatten_cons,List.flatten_cons,k3 hm]
     rw[e];have q1:=zxe h1;have q2:=zt3 h2;have q3:=(z7k b.2.1.length).2;rw[if_pos (show (zzk b.1++(zio b.2.1.length++zja b.2.1)).length<=70368744177664 by simp only[List.length_append];omega)];dsimp only;rw[if_neg (show ¬ (0:Int)≠0 by decide)];by_cases hl:65536<(zzk b.1++(zio b.2.1.length++zja b.2.1)).length
     . rw[if_pos hl,if_pos hl]
     . rw[if_neg hl,if_neg hl]
   . rw[if_neg hm,if_pos hm];dsimp only;rw[if_pos hm]
 . rw[if_neg hb,if_pos hb];dsimp only;rw[if_neg hb,Option.bind_some,if_pos hb];dsimp only;rw[if_neg hb]
end
end Go.Proofs.YthdblfmolchhpaaGreatDoorLg
set_option linter.all false
set_option maxRecDepth 100000
namespace Go.Proofs.YthdblfmolchhpaaGreatDoorLg
noncomputable section
open Go Go.Lift Go.Proofs.YthdblfmolchhpaaGreatDoorPx
theorem zkv (t:List UInt8):1+t.length<=(zuf t).length:=by
 have:=(z7k t.length).1;unfold zuf;rw[List.length_append];omega
theorem zt0:∀ ls:List Lk,2*(ls.length+z6f ls)<=(zi3 ls).length
 | []=>by simp[zi3,z6f]
 | l :: ls=>by
   have h:=zt0 ls;rw[zat,zi3,List.length_append,List.length_cons];have h1:=zkv l.1;have h2:=zkv l.2.1;unfold z1f6;by_cases hl:l.2.1=[]
   . rw[if_pos hl,if_pos hl,List.length_cons];omega
   . have h3:0<l.2.1.length:=List.length_pos_iff.2 hl;rw[if_neg hl,if_neg hl,List.length_cons,List.length_append];omega
theorem zxd {t:Tk}(h:zkb t=0):2*zz2 t+30<=(zzk t).length:=by
 have h32:t.2.2.1.length=32:=by
  unfold zkb at h;by_cases hb:z182 t=0
  . rw[if_neg (by simpa using hb)] at h;by_cases hc:t.2.2.1.length=32
    . exact hc
    . rw[if_pos hc] at h;exact absurd h (by decide)
  . rw[if_pos hb] at h;exact absurd h hb
 have h1:=zkv (z13g t++t.2.2.1);have h2:=zt0 t.2.1;have h3:=zkv t.1;have h4:=(z7k t.2.1.length).1;unfold zzk zz2;rw[List.length_append] at h1;have h5:(z13g t).length=(zuf t.1).length+((zio t.2.1.length).length+(zi3 t.2.1).length):=by
  unfold z13g;rw[List.length_append,List.length_append]
 omega
theorem zt2:∀ {ts:List Tk},z130 ts=0->2*(ts.map zz2).sum<=(zja ts).length/\∀ t∈ts,zkb t=0
 | [],_=>⟨by simp[zja],fun t ht=>by cases ht⟩
 | t :: ts,h=>by
   unfold z130 at h;by_cases hb:zkb t=0
   . rw[if_neg (by simpa using hb)] at h;obtain⟨h1,h2⟩:=zt2 (ts:=ts) h;have h3:=zxd hb;refine⟨by rw[List.map_cons,List.sum_cons,zja,List.length_append];omega,fun x hx=>?_⟩;rcases List.mem_cons.1 hx with rfl|hx
     . exact hb
     . exact h2 x hx
   . rw[if_pos hb] at h;exact absurd h hb
theorem z14v {b:zan} {s:List UInt8} (h:z178 b=(s,0,())):2*zm9 b<=s.length/\s.length<=65536/\b.2.1.length<=8/\zkb b.1=0/\∀ t∈b.2.1,zkb t=0:=by
 unfold z178 at h;by_cases h1:(z176 b).2.1=0
 . rw[if_neg (by simpa using h1)] at h;by_cases hl:65536<(z176 b).1.length
   . rw[if_pos hl] at h;cases h
   rw[if_neg hl] at h;rw[h] at hl;unfold z176 at h;by_cases h8:8<b.2.1.length
   . rw[if_pos h8] at h;cases h
   rw[if_neg h8] at h;by_cases hb:zkb b.1=0
   . rw[if_neg (by simpa using hb)] at h;by_cases hm:z130 b.2.1=0
     . rw[if_neg (by simpa using hm)] at h;obtain⟨g1,g2⟩:=zt2 hm;have g3:=zxd hb;have he:s=zzk b.1++(zio b.2.1.length++zja b.2.1):=(congrArg Prod.fst h).symm;refine⟨?_,by simp only at hl;omega,by omega,hb,g2⟩;rw[he,List.length_append,List.length_append];unfold zm9;unfold zz2 at g3;omega
     . rw[if_pos hm] at h;have:=congrArg (fun x=>x.2.1) h;exact absurd this hm
   . rw[if_pos hb] at h;have:=congrArg (fun x=>x.2.1) h;exact absurd this hb
 . rw[if_pos h1,] at h;rw[h] at h1;exact absurd rfl h1
theorem zxk {t:Tk}(h:zkb t=0):t.2.1.length<=64:=by
 unfold zkb at h;by_cases hb:z182 t=0
 . unfold z182 at hb;by_cases hc:64<t.2.1.length
   . rw[if_pos hc] at hb;cases hb
   . omega
 . rw[if_pos hb] at h;exact absurd h hb
theorem z104 {t:Tk}(h:FairT t):Sz t :=
 ⟨by have:=h.id;omega,h.len,fun l hl=>by have:=h.links l hl;exact⟨by have:=this.1;omega,by have:=this.2;omega⟩,by have:=h.tag;omega⟩
theorem zyo (k:Nat) (hk:1000<=k) (b:zan):∃ g,z2u (k+100) b=some g/\(g=false->b.2.1.length<=12/\FairT b.1/\∀ t∈b.2.1,FairT t):=by
 have one:∀ t:Tk,∃ g,z25 (k+100) t=some g/\(g=false->FairT t):=by
  intro t;obtain⟨g,h1,h2⟩:=zuy k (t:=t) (by omega);exact⟨g,h1,fun e=>⟨(h2 e).1,(h2 e).2.1,(h2 e).2.2.1,(h2 e).2.2.2⟩⟩
 rw[z2u,z4j,z4i];by_cases h12:12<b.2.1.length
 . rw[zn (decide_eq_true (by omega)),cond_true];exact⟨true,rfl,fun e=>by cases e⟩
 rw[z1i (decide_eq_false (by omega))];obtain⟨g0,e0,f0⟩:=one b.1;rw[e0,Option.bind_some];cases g0 with
 | true=>exact⟨true,rfl,fun e=>by cases e⟩
 | false =>
   rw[cond_false,z7b];refine zhs (fun v=>∃ i:Nat,v=(i:Int)/\i<=b.2.1.length/\∀ j,j<i->FairT (b.2.1.getD j z29)) (fun v=>b.2.1.length - v.toNat) (fun o=>∃ g,o=some g/\(g=false->b.2.1.length<=12/\FairT b.1/\∀ t∈b.2.1,FairT t)) ?_ (k+100) 0 ⟨0,rfl,by omega,fun j hj=>by omega⟩ (by omega);rintro v r ⟨i,rfl,hi,hall⟩ hr;rw[z4h];by_cases hlt:i<b.2.1.length
   . obtain⟨g1,e1,f1⟩:=one (b.2.1.getD i z29);rw[zn (decide_eq_true (by omega)),zn (z28 hlt),Int.toNat_natCast];rw[show (([]:List UInt8),(([]:List ((List UInt8)×((List UInt8)×Unit))),(([]:List UInt8),())))=z29 from rfl,e1,Option.bind_some];cases g1 with
     | true=>exact⟨true,rfl,fun e=>by cases e⟩
     | false =>
       rw[cond_false,z1o (by omega)];refine hr _ ⟨i+1,rfl,by omega,fun j hj=>?_⟩ (by simp only[Int.toNat_natCast];omega);rcases Nat.lt_or_ge j i with h|h
       . exact hall j h
       . rw[show j=i by omega];exact f1 rfl
   . rw[z1i (decide_eq_false (by omega))];refine⟨false,rfl,fun _=>⟨by omega,f0 rfl,fun t ht=>?_⟩⟩;obtain⟨j,hj,e⟩:=List.mem_iff_getElem.1 ht;have:=hall j (by omega);rw[List.getD_eq_getElem?_getD,List.getElem?_eq_getElem hj,Option.getD_some,e] at this;exact this
theorem z18d (k:Nat)(hk:4400<=k){key:List UInt8}{b:zan}(hb:FairB b)(hw:zfs b=true)(hl:key.length<=30000) :
 ∃ n:Nat,z7x (k+100) key b=some (n:Int)/\n<=zm9 b:=by
 have hg:=z1cn hb hw;have hv:=zty k hk hg hl;refine⟨(zor (k+100) key b).1.work,?_,zyd k (by omega) hg hl⟩;rw[z7x,ztw _ (by omega),hw,Option.bind_some,Bool.not_true,cond_false];cases hr:z3v (k+100) b with
 | none=>rw[hr] at hv;cases hv
 | some r =>
   rw[hr,Option.bind_some] at hv;rw[Option.bind_some,hv,Option.bind_some];rfl
end
end Go.Proofs.YthdblfmolchhpaaGreatDoorLg
set_option linter.all false
set_option maxRecDepth 100000
namespace Go.Proofs.YthdblfmolchhpaaGreatDoorLg
noncomputable section
open Go Go.Lift Go.Proofs.YthdblfmolchhpaaGreatDoorPx
theorem z13l (k:Nat):z1w (k+1000)=some true:=by kernel_rfl
theorem z1jg {n:Nat}(hn:n<=100000):Go.IntKind.wrap Go.IntKind.i64 (Int.tdiv (if ((0:Int) > ((n:Nat):Int)) then (0:Int) else ((n:Nat):Int)) (2:Int))=((n / 2:Nat):Int):=by
 rw[if_neg (show ¬ ((0:Int) > ((n:Nat):Int)) by omega),show Int.tdiv (n:Int) 2=((n / 2:Nat):Int) from rfl,z2j (by unfold I64;omega)]
theorem zqv (k:Nat) (hk:4400<=k) (hw:z1w (k+100)=some true) (key:List UInt8) (b:zan):z1x (k+100) key b=some true:=by
 rw[z1x,z2x,z2w,hw];simp only[Option.bind_some];by_cases h1:100<key.length
 . rw[zn (decide_eq_true (by omega)),cond_true]
 rw[z1i (decide_eq_false (by omega))];obtain⟨g,hg,hgs⟩:=zyo k (by omega) b;rw[hg,Option.bind_some];cases g with
 | true=>rw[cond_true,cond_true]
 | false =>
   obtain⟨h12,hf1,hfm⟩:=hgs rfl;rw[cond_false];by_cases h2:12<b.1.2.1.length
   . rw[decide_eq_true (show (12:Int)<((b.1.2.1.length:Nat):Int) by omega),cond_true]
   rw[decide_eq_false (show ¬ (12:Int)<((b.1.2.1.length:Nat):Int) by omega),cond_false,z5a];refine zhs (fun v=>∃ i:Nat,v=(i:Int)/\i<=b.2.1.length) (fun v=>b.2.1.length - v.toNat) (fun o=>o=some true) ?_ (k+100) 0 ⟨0,rfl,by omega⟩ (by omega);rintro v r ⟨i,rfl,hi⟩ hr;rw[z2v];by_cases hlt:i<b.2.1.length
   . rw[zn (decide_eq_true (by omega)),zn (z28 hlt),Int.toNat_natCast,hw,Option.bind_some];cases hd:decide ((12:Int)<(((List.length (List.getD b.2.1 i (([]:List UInt8),(([]:List ((List UInt8)×((List UInt8)×Unit))),(([]:List UInt8),())))).2.1):Nat):Int)) with
     | true=>rw[cond_true]
     | false =>
       rw[cond_false,z1o (by omega)];exact hr _ ⟨i+1,rfl,by omega⟩ (by simp only[Int.toNat_natCast];omega)
   . rw[z1i (decide_eq_false (by omega))];have hsz:SzB b:=⟨z104 hf1,fun t ht=>z104 (hfm t ht)⟩
     rw[z1cv (k+100) (by omega) hsz,Option.bind_some];cases he:(z178 b).2.1 != (0:Int) with
     | true=>rw[cond_true]
     | false =>
       have he0:(z178 b).2.1=0:=by simpa using he
       have hp:z178 b=((z178 b).1,0,()):=by rw[<- he0]
       obtain⟨g1,g2,g3,g4,g5⟩:=z14v hp;have hfb:FairB b:=⟨hf1,hfm,by omega⟩
       have hwb:zfs b=true:=by
        unfold zfs;rw[decide_eq_true g3,Bool.true_and,Bool.not_eq_true',List.any_eq_false];intro t ht;have hl:t.2.1.length<=64:=by
         rcases List.mem_cons.1 ht with rfl|ht
         . exact zxk g4
         . exact zxk (g5 t ht)
        unfold zsj;simp only[decide_eq_true_eq];omega
       obtain⟨n,hn1,hn2⟩:=z18d k hk (key:=key) hfb hwb (by omega);rw[cond_false,hn1,Option.bind_some,z1jg (by omega),zn (decide_eq_true (by omega)),z1a6 (k+100) (by omega) hfb,Option.bind_some,zn (decide_eq_true (by omega))]
end
end Go.Proofs.YthdblfmolchhpaaGreatDoorLg
