import Derived.Test.YtlhdohlpilippaaDoorLgPrVh4
import Derived.Test.YtlhdohlpilippaaDoorLgW
set_option linter.all false
set_option maxRecDepth 100000
namespace Go.Proofs.YtlhdohlpilippaaDoorLg
noncomputable section
open Go Go.Lift
theorem zxg {w:World}{S:Hp}(l:List (A×Value))(hl:∀ p∈l,ARel (hp w) S (fun _=>undef) p.1 p.2 []/\p.1.refs=[]) :
 ArgsRel (hp w) S (l.map (·.1)) (l.map (·.2)) (fun _=>[]):=by
 refine⟨by simp,fun i y hy=>?_,fun _ _=>rfl,(fun i j b hb=>by cases hb),fun _=>.nil,(fun i b hb=>by cases hb)⟩;simp only[List.getElem?_map] at hy ⊢;cases hp:l[i]? with
 | none=>rw[hp] at hy;cases hy
 | some p =>
   rw[hp] at hy;cases hy;have:=hl p (List.mem_of_getElem? hp);exact⟨⟨p.2,rfl,this.1⟩,this.2⟩
abbrev LinkT:T:=.pair .str (.pair .str .unit)
def z1gv:Go.Shelf.Ren:=⟨fun|41=>44|n=>n,fun|4=>4|22=>25|23=>49|n=>n,fun n=>n⟩
theorem z18m:Go.Proofs.SlLaysE0.n41 Tryd.prog z1gv where
 mixed:=by kernel_rfl
 f41 := ⟨"slices.Clone[[]porter/api.Link,porter/api.Link]", by decide, Tryd.func44.trans (congrArg some (by kernel_rfl))⟩
 t4:=Tryd.underlying4
 a4:=Tryd.isAgg4
 z4:=Tryd.sizeOf4
 v4:=Tryd.zeroValue4
 t22:=Tryd.underlying25
 a22:=Tryd.isAgg25
 z22:=Tryd.sizeOf25
 v22:=Tryd.zeroValue25
def z8w (N:Nat)(l:List LinkT.den):Option (List LinkT.den):=cond (decide (l.length*32<=140737488355328)) (some l) none
def zn8 (N:Nat):List A->Res:=z14 [(0,.v (.sl LinkT))] (fun x=>z8w N x.1) (z3r (.row LinkT) 1)
theorem zpe (N:Nat):Contract Tryd.prog glob 44 (zn8 N) :=
 z132 z18m (ee:=ty49) zxz (by decide) (by decide) glob
abbrev TokT:T:=.pair .str (.pair (.sl LinkT) (.pair .str .unit))
abbrev TokO:T:=.pair .str (.pair (.own LinkT) (.pair .str .unit))
def z4y (N:Nat)(t:TokT.den):Option TokO.den:=(z8w N t.2.1).bind fun l=>some (t.1,(l,(t.2.2.1,())))
def z62 (N:Nat):List A->Res:=z14 [(0,.v TokT)] (fun x=>z4y N x.1) (z3r (.ov TokO) 1)
theorem z15e {S:Hp}{i t:List UInt8}{l:List LinkT.den}{v:Value}(h:VR S TokT (i,(l,(t,()))) v):∃ sv,v=.agg #[.string ⟨⟨i⟩⟩,sv,.string ⟨⟨t⟩⟩]/\VR S (.sl LinkT) l sv:=by
 have h':∃ cs,v=.agg cs/\Rd S TokT (i,(l,(t,()))) cs.toList:=h;obtain⟨cs,rfl,c1,c2,hc,k1,c3,c4,hc',k2,c5,c6,hc'',k3,k4⟩:=h';have e1:c1=[.string ⟨⟨i⟩⟩]:=k1;have e3:c5=[.string ⟨⟨t⟩⟩]:=k3;have e5:c6=[]:=k4;obtain⟨a,cap,e2,hcap,hk⟩:=k2;refine⟨.slice a l.length cap,?_,VR.of_one rfl ⟨a,cap,rfl,hcap,hk⟩⟩;congr 1;apply Array.toList_inj.1;rw[hc,hc',hc'',e1,e2,e3,e5];rfl
theorem zx9 (N:Nat){w:World}{S:Hp}(hS:Lift.Sub S (hp w))(hg:GlobOk glob S){l l':List LinkT.den}{sv:Value}(hv:VR S (.sl LinkT) l sv)(hy:z8w N l=some l') :
 Calls Tryd.prog 44 #[sv] w fun r w'=>∃ v o S',r=.returned v/\RowRel (hp w') S' LinkT l' v o/\(∀ b∈o,S' b=none/\w.heap.size<=b)/\o.Nodup ∧
  WF w (fun _=>False) w'/\Lift.Sub S S'/\Lift.Sub S' (hp w')/\∀ k,S' k≠none->S k≠none\/w.heap.size<=k:=by
 refine ((zpe N).2 w S _ _ _ (zxg [(.v (.sl LinkT) l,sv)] (fun p hp=>by rw[List.mem_singleton.1 hp];exact⟨⟨hv,rfl⟩,rfl⟩)) hS hg _ hy).mono ?_;rintro e w' ⟨v,S',o,ob',rfl,hwf,k1,k2,k3,⟨hr,_⟩,ho,hnd,_⟩;refine⟨v,o,S',rfl,hr,fun b hb=>?_,hnd,⟨hwf.size,fun k hk _=>hwf.same k hk (by rintro⟨i,hi⟩;cases hi),hwf.tape,hwf.os,hwf.output⟩,k1,k2,fun k hk=>?_⟩
 . obtain⟨o1,o2⟩:=ho b hb;refine⟨o1,?_⟩;rcases o2 with⟨i,hi⟩|h
   . cases hi
   . exact h
 . rcases k3 k hk with h|⟨i,hi⟩|h
   . exact .inl h
   . cases hi
   . exact .inr h
theorem z13g {S:Hp}{t:T}{l:List t.den}{v:Value}(h:VR S (.sl t) l v):∃ a n c,v=.slice a n c:=by
 have h':Rd S (.sl t) l [v]:=h;obtain⟨a,c,e,_⟩:=h';exact⟨a,_,c,by cases e;rfl⟩
theorem z1bh {h S:Hp}{t:T}{l:List t.den}{v:Value}{o:List Nat}(hr:RowRel h S t l v o):∃ a n c,v=.slice a n c:=by
 rcases hr with⟨_,⟨ad,e,_⟩,_⟩|⟨b,cap,cs,E,fr,_,e,_⟩
 . exact⟨ad,0,0,e⟩
 . exact⟨_,_,_,e⟩
theorem z1dk {w w3:World}(h:WF w (fun _=>False) w3){b:Nat}{o:Obj}(hb:w.heap[b]?=some o):w3.heap[b]?=some o:=by
 rw[h.same b (Array.getElem?_eq_some_iff.1 hb).1 (fun h=>h)];exact hb
theorem zxb {w:World}{b i E:Nat}{cs:Array Value}{v:Value}(hb:w.heap[b]?=some (.cells cs E (0,0)))(hi:cs[i]?=some v):w.cell? ⟨b,i,none⟩=some v:=by
 simp[World.cell?,hb,hi]
theorem zx2 {w:World}{b i E:Nat}{cs:Array Value}(hb:w.heap[b]?=some (.cells cs E (0,0))):w.frozen? ⟨b,i,none⟩=false:=by
 simp[World.frozen?,hb]
theorem zye {w:World}{b i k:Nat}{v:Value}(hk:k≠b):(w.setCell ⟨b,i,none⟩ v).heap[k]?=w.heap[k]?:=by
 have:b≠k:=fun h=>hk h.symm
 simp[World.setCell,Array.getElem?_modify,this]
theorem zk4 {w:World}{b i:Nat}{v:Value}:(w.setCell ⟨b,i,none⟩ v).heap.size=w.heap.size/\(w.setCell ⟨b,i,none⟩ v).tape=w.tape/\(w.setCell ⟨b,i,none⟩ v).os=w.os/\(w.setCell ⟨b,i,none⟩ v).output=w.output:=by
 simp[World.setCell]
structure But (B:Nat->Prop) (w w':World):Prop where
 same:∀ k,¬ B k->w'.heap[k]?=w.heap[k]?
 size:w'.heap.size=w.heap.size
 tape:w'.tape=w.tape
 os:w'.os=w.os
 output:w'.output=w.output
theorem But.refl (B:Nat->Prop)(w:World):But B w w:=⟨fun _ _=>rfl,rfl,rfl,rfl,rfl⟩
theorem But.set {B:Nat->Prop}{w w':World}(h:But B w w'){b i:Nat}{v:Value}(hb:B b):But B w (w'.setCell ⟨b,i,none⟩ v) :=
 ⟨fun k hk=>by rw[zye (fun e=>hk (by rw[e];exact hb)),h.same k hk],zk4.1.trans h.size,zk4.2.1.trans h.tape,zk4.2.2.1.trans h.os,zk4.2.2.2.trans h.output⟩
theorem zs4 {w:World}{c1 c2:Array Value}{E1 E2:Nat}:((w.alloc (.cells c1 E1)).alloc (.cells c2 E2)).heap[w.heap.size]?=some (.cells c1 E1 (0,0))/\((w.alloc (.cells c1 E1)).alloc (.cells c2 E2)).heap[w.heap.size+1]?=some (.cells c2 E2 (0,0)) ∧
 ((w.alloc (.cells c1 E1)).alloc (.cells c2 E2)).heap.size=w.heap.size+2/\∀ k,k<w.heap.size->((w.alloc (.cells c1 E1)).alloc (.cells c2 E2)).heap[k]?=w.heap[k]?:=by
 have hh:((w.alloc (.cells c1 E1)).alloc (.cells c2 E2)).heap=(w.heap.push (.cells c1 E1 (0,0))).push (.cells c2 E2 (0,0)):=rfl;refine⟨?_,?_,?_,fun k hk=>?_⟩
 . rw[hh,Array.getElem?_push,Array.size_push,if_neg (by omega),Array.getElem?_push,if_pos rfl]
 . rw[hh,Array.getElem?_push,Array.size_push,if_pos rfl]
 . rw[hh,Array.size_push,Array.size_push]
 . rw[hh,Array.getElem?_push,Array.size_push,if_neg (by omega),Array.getElem?_push,if_neg (by omega)]
theorem zon {w:World}{S:Hp}(hS:Lift.Sub S (hp w))(c1 c2:Array Value)(E1 E2:Nat):Lift.Sub S (hp ((w.alloc (.cells c1 E1)).alloc (.cells c2 E2))):=fun b o ho=>by
 have:=hS b o ho;simp only[hp] at this ⊢;rw[zs4.2.2.2 b (Array.getElem?_eq_some_iff.1 this).1];exact this
theorem zx8 (N:Nat) {w:World} {S:Hp} (hS:Lift.Sub S (hp w)) (hg:GlobOk glob S) {i t:List UInt8} {l l':List LinkT.den} {sv:Value} (hv:VR S (.sl LinkT) l sv) (hy:z8w N l=some l') :
 Calls Tryd.prog 24 #[.agg #[.string ⟨⟨i⟩⟩,sv,.string ⟨⟨t⟩⟩]] w fun r w'=>∃ v o S',r=.returned (.agg #[.string ⟨⟨i⟩⟩,v,.string ⟨⟨t⟩⟩])/\RowRel (hp w') S' LinkT l' v o/\(∀ b∈o,S' b=none/\w.heap.size<=b)/\o.Nodup ∧
  WF w (fun _=>False) w'/\Lift.Sub S S'/\Lift.Sub S' (hp w')/\∀ k,S' k≠none->S k≠none\/w.heap.size<=k:=by
 obtain⟨a,n,c,rfl⟩:=z13g hv;have HC:=zx9 N (zon hS #[.string ⟨⟨i⟩⟩,.slice a n c,.string ⟨⟨t⟩⟩] #[.string ⟨#[]⟩,.slice none 0 0,.string ⟨#[]⟩] 27 27) hg hv hy;obtain⟨q0,q1,q2,q3⟩:=zs4 (w:=w) (c1:=#[.string ⟨⟨i⟩⟩,.slice a n c,.string ⟨⟨t⟩⟩]) (c2:=#[.string ⟨#[]⟩,.slice none 0 0,.string ⟨#[]⟩]) (E1:=27) (E2:=27);have hSw:=Go.Lib.hid hS;have Q3:=Go.Lib.hid (And.intro q2 q3);clear q2 q3 hS
 go_enter Tryd.func24,Tryd.ntmps24
 go_wp2_with (go_at_call 44;refine HC.mono ?_;rintro r w3 ⟨v,o,S',rfl,hrow,ho,hnd,hwf,k1,k2,k3⟩;obtain⟨a',n',c',rfl⟩:=z1bh hrow;have p0:=z1dk hwf q0;have p1:=z1dk hwf q1;have c00:=zxb (i:=0) p0 rfl;have c01:=zxb (i:=1) p0 rfl;have c02:=zxb (i:=2) p0 rfl;have c10:=zxb (i:=0) p1 rfl;have c11:=zxb (i:=1) p1 rfl;have c12:=zxb (i:=2) p1 rfl;have f00:=zx2 (i:=0) p0;have f01:=zx2 (i:=1) p0;have f02:=zx2 (i:=2) p0;have f10:=zx2 (i:=0) p1;have f11:=zx2 (i:=1) p1;have f12:=zx2 (i:=2) p1;have HM:=Go.Lib.hid (And.intro hrow (And.intro ho (And.intro hnd (And.intro hwf (And.intro k1 (And.intro k2 (And.intro k3 (And.intro q0 q1))))))));clear HC hrow ho hnd hwf k1 k2 k3 p0 p1 q0 q1)
 obtain⟨hrow,ho,hnd,hwf,k1,k2,k3,q0,q1⟩:=HM.out;obtain⟨q2,q3⟩:=Q3.out;have hB:But (fun k=>k=w.heap.size\/k=w.heap.size+1) w3 ((((w3.setCell ⟨w.heap.size,1,none⟩ (Value.slice a' n' c')).setCell ⟨w.heap.size+1,0,none⟩ (.string ⟨⟨i⟩⟩)).setCell ⟨w.heap.size+1,1,none⟩ (Value.slice a' n' c')).setCell ⟨w.heap.size+1,2,none⟩ (.string ⟨⟨t⟩⟩)) :=
  ((((But.refl _ w3).set (.inl rfl)).set (.inr rfl)).set (.inr rfl)).set (.inr rfl)
 have hno:∀ k,S' k≠none->¬ (k=w.heap.size\/k=w.heap.size+1):=fun k hk hk'=>by
  rcases k3 k hk with h|h
  . cases hs:S k with
    | none=>exact h hs
    | some x =>
      have:=hSw.out k x hs;simp only[hp] at this;have:=(Array.getElem?_eq_some_iff.1 this).1;omega
  . omega
 refine⟨rfl,_,?_,.slice a' n' c',o,S',rfl,RowRel.mono (Lift.Sub.refl S') (fun b hb=>?_) hrow,fun b hb=>⟨(ho b hb).1,by have:=(ho b hb).2;omega⟩,hnd,
  ⟨by rw[hB.size];have:=hwf.size;omega,fun k hk _=>?_,hB.tape.trans hwf.tape,hB.os.trans hwf.os,hB.output.trans hwf.output⟩,k1,fun k x hx=>?_,fun k hk=>?_⟩
 . simp[results,Tryd.results24,go_sem,c10,c11,c12,f10,f11,f12]
 . have:=(ho b hb).2;exact hB.same b (by omega)
 . rw[hB.same k (by omega),hwf.same k (by omega) (fun h=>h),q3 k hk]
 . have:=k2 k x hx;simp only[hp] at this ⊢;rw[hB.same k (hno k (by rw[hx];simp))];exact this
 . rcases k3 k hk with h|h
   . exact .inl h
   . exact .inr (by omega)
theorem z9g (N:Nat):Contract Tryd.prog glob 24 (z62 N):=by
 refine Contract.hand ⟨_,Tryd.func24,by kernel_rfl,by decide⟩ ?_;intro w S vals ob x y har hS hg hy;obtain⟨⟨i,l,t,u⟩,u'⟩:=x;cases u;cases u';obtain⟨⟨v0,hv0,hA0,ho0⟩,_⟩:=har.rel 0 _ rfl;have hvals:vals=[v0]:=by
  match vals,har.len with
  | [a],_=>cases hv0;rfl
 obtain⟨sv,e0,hsv⟩:=z15e hA0;subst e0;subst hvals;unfold z4y at hy;dsimp only at hy;cases hc:z8w N l with
 | none=>rw[hc] at hy;cases hy
 | some l' =>
 rw[hc] at hy;cases hy;refine (zx8 N hS hg hsv hc).mono ?_;rintro r w' ⟨v,o,S',rfl,hrow,ho,hnd,hwf,k1,k2,k3⟩;have hob:∀ i,ob i=[]:=fun i=>by
  match i with
  | 0=>exact ho0
  | i+1=>exact har.out _ (by simp[mkS,z39])
 refine⟨_,S',o,ob,rfl,⟨hwf.size,fun k hk _=>hwf.same k hk (fun h=>h),hwf.tape,hwf.os,hwf.output⟩,k1,k2,fun k hk=>?_,⟨⟨rfl,?_⟩,rfl⟩,fun b hb=>⟨(ho b hb).1,.inr (ho b hb).2⟩,hnd,?_,?_,?_,?_,fun _ h=>h⟩
 . rcases k3 k hk with h|h
   . exact .inl h
   . exact .inr (.inr h)
 . exact⟨_,rfl,[.string ⟨⟨i⟩⟩],[v,.string ⟨⟨t⟩⟩],[],o,rfl,rfl,⟨rfl,rfl⟩,[v],[.string ⟨⟨t⟩⟩],o,[],rfl,by simp,⟨v,rfl,hrow⟩,[.string ⟨⟨t⟩⟩],[],[],[],rfl,rfl,⟨rfl,rfl⟩,rfl,rfl⟩
 . intro i y hy hbx;have:z8f y=false:=by
    match i with
    | 0=>cases hy;rfl
    | i+1=>simp[mkS,z39] at hy
   rw[hbx] at this;cases this
 . intro i k hk;rw[hob i] at hk;cases hk
 . intro i j k hi;rw[hob i] at hi;cases hi
 . intro i;rw[hob i];exact .nil
def z18x:Code:=(Tryd.f25.body).getD .skip
def L_69:List (List Nat×List Nat):=[([0],[3,2,4]),([0,1],[2,3,5,4]),([0,1,1],[5,4]),([0,1,1,1],[4]),([1,1,1,1],[4])]
def E_69 (N:Nat):Env:=z1c tys glob [(24,z62 N),(45,zas N)] [] [] [] false [] [(81,zf N),(83,zd N),(52,z8 N)]
theorem z1hu (N:Nat):EnvOk Tryd.prog (E_69 N):=zh mixed zz (FnsOk.cons (z9g N) (FnsOk.cons (zhh N) (FnsOk.nil))) (ItsOk.cons (zg N) (ItsOk.cons (ze N) (ItsOk.cons (za N) (ItsOk.nil))))
def z9j (N:Nat)(t:DT0)(discharge:DT0):Option DT0 :=
 (z4y N discharge).bind fun y =>
 (z8y N t.2.2.1 discharge.2.2.1).bind fun y1 =>
 some (y.1,(y.2.1,(y1,y.2.2.2)))
def t_69 (N:Nat):Tab DT0:=[]
theorem z16s (N:Nat)(x:z1k [(0,.v TT1),(0,.v TT1)]):z3v (E_69 N) N (t_69 N) L_69 Tryd.f25 (mkS [(0,.v TT1),(0,.v TT1)] 0 x) (z1r (.v TT1) 2)=z9j N x.1 x.2.1:=by kernel_rfl
def zdx (N:Nat):List A->Res:=z14 [(0,.v TT1),(0,.v TT1)] (fun x=>z9j N x.1 x.2.1) (z3r (.v TT1) 2)
theorem zmz (N:Nat):Contract Tryd.prog glob 25 (zdx N) :=
 Contract.of (E:=E_69 N) (H:=t_69 N) (L:=L_69) (N:=N) (body:=z18x) (K:=(z1r (.v TT1) 2)) (z1hu N) Tryd.func25 (by kernel_rfl) (by decide) (fun _ hb=>TabOk.nil) (fun x y h=>by rw[z16s];exact h) (zq (s:=(.v TT1)) (m:=2))
def zty:Code:=(Tryd.f12.body).getD .skip
def L_70:List (List Nat×List Nat):=[([0],[2,1,4]),([0,1],[1,5,2,4]),([0,0,1,1],z19v),([0,1,0,1,1],z19v),(z14m,[14,11,13,5,2,12,4]),(z14n,[11,13,5,2,12,4]),(z19z,[5,4]),(z1a0,[5,2,7,13,12,11,4]),(z1al,z19v),(z19y,z19v),(z19x,z19v),([1,0,1,1],[5,4]),([0,1,1,1],[4]),([1,1,1,1],[4])]
def E_70 (N:Nat):Env:=z1c tys glob [(25,zdx N),(24,z62 N)] [] [] [] false [(5,(.pair (.pair .str (.pair (.own TT8) (.pair .str .unit))) (.pair (.own TT1) .unit))),(10,(.pair (.pair .str (.pair (.own TT8) (.pair .str .unit))) (.pair (.own TT1) .unit)))] [(81,zf N),(83,zd N),(52,z8 N)]
theorem z1ht (N:Nat):EnvOk Tryd.prog (E_70 N):=zh mixed zz (FnsOk.cons (zmz N) (FnsOk.cons (z9g N) (FnsOk.nil))) (ItsOk.cons (zg N) (ItsOk.cons (ze N) (ItsOk.cons (za N) (ItsOk.nil))))
def zim (N:Nat)(t:DT0)(x4:zio)(x11:(List DT0))(x12:Int)(b:zio)(x13:Int)(rec:zio->Int->Option zio)(k0:zio->Option zio):Option zio :=
 cond (decide (x13<x12))
 (cond (inR x13 (List.length x11))
 ((z9j N t (List.getD x11 (Int.toNat x13) (([]:List UInt8),(([]:List DT6),(([]:List UInt8),()))))).bind fun y =>
 cond (decide ((((List.length b.2.1)+1)*56)<=70368744177664))
 (rec (b.1,((b.2.1++([y]:List DT0)),b.2.2)) (IntKind.wrap IntKind.i64 (x13+(1:Int))))
 (none))
 (none))
 (k0 b)
def zod (N:Nat)(t:DT0)(x4:zio)(b:zio)(x11:(List DT0))(x12:Int)(x13:Int)(k0:zio->Option zio):Option zio :=
 iter (fun (v:(zio×Int)) r=>zim N t x4 x11 x12 v.1 v.2 (fun b x13=>(r (b,x13))) k0) N (b,x13)
def z1g3 (N:Nat)(i:(DT0×zio×(List DT0)×Int))(v:(zio×Int))(r:(zio×Int)->Option zio)(K:Ex->List A->Option zio):Option zio :=
 zim N i.1 i.2.1 i.2.2.1 i.2.2.2 v.1 v.2 (fun b x13=>(r (b,x13))) (fun a1=>(K (.exit 0) (mkS [(4,.box zoh),(0,.box (.pair (.pair .str (.pair (.own TT8) (.pair .str .unit))) (.pair (.own TT1) .unit)))] 21 (i.2.1,a1,()))))
def z1ei (N:Nat):Hd zio:=fun st K=>(unS SQ12 13 (restr z19v 0 st)).bind fun x=>iter (fun v r=>z1g3 N ((fun x=>(x.1,x.2.1,x.2.2.2.1,x.2.2.2.2.1)) x) v r K) N ((fun x=>(x.2.2.1,x.2.2.2.2.2.1)) x)
def t1_70 (N:Nat):Tab zio:=[]
theorem z1cj {N:Nat}{c:Ctx}(hb:Base Tryd.prog (E_70 N) c):z10 Tryd.prog c (zl zty [0,1,0,1,1]) (z1ei N) :=
 z2t (s:=SQ12) (m:=13) (z1g3 N) z19v N (fun x=>(x.1,x.2.1,x.2.2.2.1,x.2.2.2.2.1)) (fun x=>(x.2.2.1,x.2.2.2.2.2.1)) (fun i v=>(i.1,i.2.1,v.1,i.2.2.1,i.2.2.2,v.2,())) (fun _=>rfl) (zi hb N (t1_70 N) L_70 zty TabOk.nil [0,0,1,0,1,1] _ rfl) (fun i v r K=>by kernel_rfl)
def zat (N:Nat)(t:DT0)(discharges:(List DT0)):Option zio :=
 (z4y N t).bind fun y =>
 zod N t ((([]:List UInt8),(([]:List DT6),(([]:List UInt8),()))),(([]:List DT0),())) (y,(([]:List DT0),())) discharges (((List.length discharges):Nat):Int) (0:Int)
 (fun b=>some ((b.1.1,(b.1.2.1,(b.1.2.2.1,b.1.2.2.2))),(b.2.1,b.2.2)))
def t_70 (N:Nat):Tab zio:=[([0,1,0,1,1],z1ei N)]
theorem z16r (N:Nat)(x:z1k [(0,.v TT1),(0,.v (.sl TT1))]):z3v (E_70 N) N (t_70 N) L_70 Tryd.f12 (mkS [(0,.v TT1),(0,.v (.sl TT1))] 0 x) (z1r (.v zoh) 2)=zat N x.1 x.2.1:=by kernel_rfl
def zm9 (N:Nat):List A->Res:=z14 [(0,.v TT1),(0,.v (.sl TT1))] (fun x=>zat N x.1 x.2.1) (z3r (.v zoh) 2)
theorem zxd (N:Nat):Contract Tryd.prog glob 12 (zm9 N) :=
 Contract.of (E:=E_70 N) (H:=t_70 N) (L:=L_70) (N:=N) (body:=zty) (K:=(z1r (.v zoh) 2)) (z1ht N) Tryd.func12 (by kernel_rfl) (by decide) (fun _ hb=>(TabOk.cons (z1cj hb) TabOk.nil)) (fun x y h=>by rw[z16r];exact h) (zq (s:=(.v zoh)) (m:=2))
def z18w:Code:=(Tryd.f15.body).getD .skip
def L_71:List (List Nat×List Nat):=[([0],[1]),([0,1],[2]),([1,1],[2])]
def E_71 (N:Nat):Env:=z1c tys glob [] [] [] [] false [] [(81,zf N),(83,zd N),(52,z8 N)]
theorem z1hs (N:Nat):EnvOk Tryd.prog (E_71 N):=zh mixed zz (FnsOk.nil) (ItsOk.cons (zg N) (ItsOk.cons (ze N) (ItsOk.cons (za N) (ItsOk.nil))))
def z8g (N:Nat)(a:(DT6×(DT0×Unit))):Option Bool :=
 some (decide ((64:Int)<=(((List.length a.2.1.2.1):Nat):Int)))
def t_71 (N:Nat):Tab Bool:=[]
theorem z16q (N:Nat)(x:z1k z1ae):z3v (E_71 N) N (t_71 N) L_71 Tryd.f15 (mkS z1ae 0 x) (z1r (.v .bool) 1)=z8g N x.1:=by kernel_rfl
def z3s (N:Nat):List A->Res:=z14 z1ae (fun x=>z8g N x.1) (z3r (.v .bool) 1)
theorem z6r (N:Nat):Contract Tryd.prog glob 15 (z3s N) :=
 Contract.of (E:=E_71 N) (H:=t_71 N) (L:=L_71) (N:=N) (body:=z18w) (K:=(z1r (.v .bool) 1)) (z1hs N) Tryd.func15 (by kernel_rfl) (by decide) (fun _ hb=>TabOk.nil) (fun x y h=>by rw[z16q];exact h) (zq (s:=(.v .bool)) (m:=1))
def z18v:Code:=(Tryd.f27.body).getD .skip
def L_72:List (List Nat×List Nat):=[([0],[0,3]),([0,1],[4]),([1,1],[4])]
def E_72 (N:Nat):Env:=z1c tys glob [(49,z3g N)] [] [] [] false [] [(81,zf N),(83,zd N),(52,z8 N)]
theorem z1hr (N:Nat):EnvOk Tryd.prog (E_72 N):=zh mixed zz (FnsOk.cons (z5d N) (FnsOk.nil)) (ItsOk.cons (zg N) (ItsOk.cons (ze N) (ItsOk.cons (za N) (ItsOk.nil))))
def zbj (N:Nat)(before:(List UInt8))(l:DT6):Option (List UInt8) :=
 (z4h N before l).bind fun y =>
 some y
def t_72 (N:Nat):Tab (List UInt8):=[]
theorem z16p (N:Nat)(x:z1k z1ab):z3v (E_72 N) N (t_72 N) L_72 Tryd.f27 (mkS z1ab 0 x) (z1r (.v .str) 2)=zbj N x.1 x.2.1:=by kernel_rfl
def zfi (N:Nat):List A->Res:=z14 z1ab (fun x=>zbj N x.1 x.2.1) (z3r (.v .str) 2)
theorem zpi (N:Nat):Contract Tryd.prog glob 27 (zfi N) :=
 Contract.of (E:=E_72 N) (H:=t_72 N) (L:=L_72) (N:=N) (body:=z18v) (K:=(z1r (.v .str) 2)) (z1hr N) Tryd.func27 (by kernel_rfl) (by decide) (fun _ hb=>TabOk.nil) (fun x y h=>by rw[z16p];exact h) (zq (s:=(.v .str)) (m:=2))
def z18u:Code:=(Tryd.f16.body).getD .skip
def L_73:List (List Nat×List Nat):=[([0],[1,2]),([0,1],[3,1,2]),([0,1,1],[3,1,2]),([0,1,1,1],[3,2]),([0,1,1,1,1],[2]),([1,1,1,1,1],[2])]
def E_73 (N:Nat):Env:=z1c tys glob [(27,zfi N),(24,z62 N)] [] [] [] false [(3,(.pair .str (.pair (.own TT8) (.pair .str .unit))))] [(81,zf N),(83,zd N),(52,z8 N)]
theorem z1hq (N:Nat):EnvOk Tryd.prog (E_73 N):=zh mixed zz (FnsOk.cons (zpi N) (FnsOk.cons (z9g N) (FnsOk.nil))) (ItsOk.cons (zg N) (ItsOk.cons (ze N) (ItsOk.cons (za N) (ItsOk.nil))))
def z1p (N:Nat)(a:(DT6×(DT0×Unit))):Option DT0 :=
 (z4y N a.2.1).bind fun y =>
 cond (decide ((((List.length y.2.1)+1)*32)<=70368744177664))
 ((zbj N y.2.2.1 a.1).bind fun y1 =>
 some (y.1,((y.2.1++([a.1]:List DT6)),(y1,y.2.2.2))))
 (none)
def t_73 (N:Nat):Tab DT0:=[]
theorem z16o (N:Nat)(x:z1k z1ae):z3v (E_73 N) N (t_73 N) L_73 Tryd.f16 (mkS z1ae 0 x) (z1r (.v TT1) 1)=z1p N x.1:=by kernel_rfl
def z3j (N:Nat):List A->Res:=z14 z1ae (fun x=>z1p N x.1) (z3r (.v TT1) 1)
theorem z6f (N:Nat):Contract Tryd.prog glob 16 (z3j N) :=
 Contract.of (E:=E_73 N) (H:=t_73 N) (L:=L_73) (N:=N) (body:=z18u) (K:=(z1r (.v TT1) 1)) (z1hq N) Tryd.func16 (by kernel_rfl) (by decide) (fun _ hb=>TabOk.nil) (fun x y h=>by rw[z16o];exact h) (zq (s:=(.v TT1)) (m:=1))
def zme:Code:=(Tryd.f7.body).getD .skip
def L_74:List (List Nat×List Nat):=[([0],[2,1,4]),([0,1],[6,1,4]),([0,0,1,1],[15,4,1,6]),([1,0,1,1],[1,6,4]),([0,0,1,0,1,1],[4,5]),([1,0,1,0,1,1],[4,5]),([0,1,1,1],[6,4]),([0,1,1,1,1],[4,5]),([1,1,1,1,1],[4,5])]
def z1jc (N:Nat):Env:=z1c tys glob [(16,z3j N),(15,z3s N)] [] [] [] false [] [(81,zf N),(83,zd N),(52,z8 N)]
theorem z1hp (N:Nat):EnvOk Tryd.prog (z1jc N):=zh mixed zz (FnsOk.cons (z6f N) (FnsOk.cons (z6r N) (FnsOk.nil))) (ItsOk.cons (zg N) (ItsOk.cons (ze N) (ItsOk.cons (za N) (ItsOk.nil))))
def zca (N:Nat)(text:(List UInt8))(x4:DT0)(a:(DT6×(DT0×Unit)))(k0:Bool->Option (DT0×Int×Unit)):Option (DT0×Int×Unit) :=
 cond (decide ((64:Int)<=(((List.length a.2.1.2.1):Nat):Int)))
 (k0 true)
 (k0 (decide ((2048:Int)<(((List.length text):Nat):Int))))
def z1fk (N:Nat)(x:z1k SQ7)(K:Ex->List A->Option (DT0×Int×Unit)):Option (DT0×Int×Unit) :=
 zca N x.1 x.2.1 x.2.2.1 (fun a3=>(K .normal (mkS [(1,.v .str),(2,.box TT1),(1,.box (.pair TT8 (.pair TT1 .unit))),(8,.v .bool)] 6 (x.1,x.2.1,x.2.2.1,a3,()))))
def z1dz (N:Nat):Hd (DT0×Int×Unit):=fun st K=>(unS SQ7 15 (restr [6,1,4] 0 st)).bind fun x=>z1fk N x K
def t2_74 (N:Nat):Tab (DT0×Int×Unit):=[]
theorem z1c0 {N:Nat}{c:Ctx}(hb:Base Tryd.prog (z1jc N) c):z10 Tryd.prog c (zl zme [0,0,1,1]) (z1dz N) :=
 z1h (s:=SQ7) (m:=15) (g:=z1fk N) [6,1,4] (zi hb N (t2_74 N) L_74 zme TabOk.nil [0,0,1,1] _ rfl) (fun x K=>by kernel_rfl)
def zcb (N:Nat)(text:(List UInt8))(x4:DT0)(a:(DT6×(DT0×Unit)))(k0:DT0->Int->Option (DT0×Int×Unit))(k1:Option (DT0×Int×Unit)):Option (DT0×Int×Unit) :=
 zca N text x4 a
 (fun x15=>cond x15
 (k0 (([]:List UInt8),(([]:List DT6),(([]:List UInt8),()))) (3:Int))
 (k1))
def z1g2 (N:Nat)(x:z1k SQ7)(K:Ex->List A->Option (DT0×Int×Unit)):Option (DT0×Int×Unit) :=
 zcb N x.1 x.2.1 x.2.2.1 (fun a0 a1=>(K .ret (mkS [(4,.box TT1),(0,.v (.int .i64))] 16 (a0,a1,())))) (K .normal (mkS SQ7 15 (x.1,x.2.1,x.2.2.1,())))
def z1eh (N:Nat):Hd (DT0×Int×Unit):=fun st K=>(unS SQ7 15 (restr [6,1,4] 0 st)).bind fun x=>z1g2 N x K
def t1_74 (N:Nat):Tab (DT0×Int×Unit):=[([0,0,1,1],z1dz N)]
theorem z1ci {N:Nat}{c:Ctx}(hb:Base Tryd.prog (z1jc N) c):z10 Tryd.prog c (zl zme [0,1,1]) (z1eh N) :=
 z1h (s:=SQ7) (m:=15) (g:=z1g2 N) [6,1,4] (zi hb N (t1_74 N) L_74 zme (TabOk.cons (z1c0 hb) TabOk.nil) [0,1,1] _ rfl) (fun x K=>by kernel_rfl)
def z59 (N:Nat)(t:DT0)(text:(List UInt8)):Option (DT0×Int×Unit) :=
 zcb N text (([]:List UInt8),(([]:List DT6),(([]:List UInt8),()))) ((([]:List UInt8),(([]:List UInt8),())),(t,()))
 (fun x4 x5=>some (x4,(x5,())))
 ((z1p N ((text,(([]:List UInt8),())),(t,()))).bind fun y =>
 some (y,((0:Int),())))
def t_74 (N:Nat):Tab (DT0×Int×Unit):=[([0,1,1],z1eh N)]
theorem z16n (N:Nat)(x:z1k [(0,.v TT1),(0,.v .str)]):z3v (z1jc N) N (t_74 N) L_74 Tryd.f7 (mkS [(0,.v TT1),(0,.v .str)] 0 x) (z1r (.tup [TT1,(.int .i64)]) 2)=z59 N x.1 x.2.1:=by kernel_rfl
def z5x (N:Nat):List A->Res:=z14 [(0,.v TT1),(0,.v .str)] (fun x=>z59 N x.1 x.2.1) (z3r (.tup [TT1,(.int .i64)]) 2)
theorem z8n (N:Nat):Contract Tryd.prog glob 7 (z5x N) :=
 Contract.of (E:=z1jc N) (H:=t_74 N) (L:=L_74) (N:=N) (body:=zme) (K:=(z1r (.tup [TT1,(.int .i64)]) 2)) (z1hp N) Tryd.func7 (by kernel_rfl) (by decide) (fun _ hb=>(TabOk.cons (z1ci hb) TabOk.nil)) (fun x y h=>by rw[z16n];exact h) (zq (s:=(.tup [TT1,(.int .i64)])) (m:=2))
def z18t:Code:=(Tryd.f17.body).getD .skip
def L_75:List (List Nat×List Nat):=[([0],[1,2,0]),([0,0,1],[11,2,1,0]),([1,0,1],[2,1,0]),([0,0,1,0,1],[6,7]),([1,0,1,0,1],[6,7]),([0,0,1,1],[14,1,0,2]),([1,0,1,1],[1,0,2]),([0,0,1,0,1,1],[6,7]),([1,0,1,0,1,1],[6,7]),([0,1,1,1],[8,0]),([0,1,1,1,1],[6,7]),([1,1,1,1,1],[6,7])]
def E_75 (N:Nat):Env:=z1c tys glob [(30,zga N),(28,zad N),(29,z9q N)] [] [] [] false [] [(81,zf N),(83,zd N),(52,z8 N)]
theorem z1ho (N:Nat):EnvOk Tryd.prog (E_75 N):=zh mixed zz (FnsOk.cons (zof N) (FnsOk.cons (zgh N) (FnsOk.cons (zfk N) (FnsOk.nil)))) (ItsOk.cons (zg N) (ItsOk.cons (ze N) (ItsOk.cons (za N) (ItsOk.nil))))
def zco (N:Nat)(key:(List UInt8))(nonce:(List UInt8))(text:(List UInt8)):Option ((List UInt8)×Int×Unit) :=
 cond ((((List.length nonce):Nat):Int) != (16:Int))
 (some (([]:List UInt8),((7:Int),())))
 (cond (decide ((4096:Int)<(((List.length text):Nat):Int)))
 (some (([]:List UInt8),((3:Int),())))
 ((z7n N key).bind fun y =>
 (z8t N y nonce text).bind fun y1 =>
 cond (decide (((List.length nonce)+(List.length y1))<=9223372036854775807))
 ((zgb N key (nonce++y1)).bind fun y2 =>
 cond (decide (((List.length (nonce++y1))+(List.length y2))<=9223372036854775807))
 (some (((nonce++y1)++y2),((0:Int),())))
 (none))
 (none)))
def t_75 (N:Nat):Tab ((List UInt8)×Int×Unit):=[]
theorem z16m (N:Nat)(x:z1k z13i):z3v (E_75 N) N (t_75 N) L_75 Tryd.f17 (mkS z13i 0 x) (z1r (.tup [.str,(.int .i64)]) 3)=zco N x.1 x.2.1 x.2.2.1:=by kernel_rfl
def ze9 (N:Nat):List A->Res:=z14 z13i (fun x=>zco N x.1 x.2.1 x.2.2.1) (z3r (.tup [.str,(.int .i64)]) 3)
theorem zmb (N:Nat):Contract Tryd.prog glob 17 (ze9 N) :=
 Contract.of (E:=E_75 N) (H:=t_75 N) (L:=L_75) (N:=N) (body:=z18t) (K:=(z1r (.tup [.str,(.int .i64)]) 3)) (z1ho N) Tryd.func17 (by kernel_rfl) (by decide) (fun _ hb=>TabOk.nil) (fun x y h=>by rw[z16m];exact h) (zq (s:=(.tup [.str,(.int .i64)])) (m:=3))
def zmd:Code:=(Tryd.f10.body).getD .skip
def L_76:List (List Nat×List Nat):=[([0],[4,1,8,3,2]),([0,1],[10,1,8,4,3,2]),([0,0,1,1],[21,8,4,3,2,1,10]),([1,0,1,1],[4,3,2,8,1,10]),([0,0,1,0,1,1],[8,9]),([1,0,1,0,1,1],[8,9]),([0,1,1,1],[12,8,1,11,10]),([0,0,1,1,1,1],[33,12,8,1,11,10]),([1,0,1,1,1,1],[1,11,10,8]),(z1ai,[8,9]),([1,0,1,0,1,1,1,1],[8,9]),([0,1,1,1,1,1],[10,8]),(z13k,[8,9]),([1,1,1,1,1,1,1],[8,9])]
def z1jb (N:Nat):Env:=z1c tys glob [(17,ze9 N),(16,z3j N),(15,z3s N),(20,zar N)] [] [] [] false [] [(81,zf N),(83,zd N),(52,z8 N)]
theorem z1hn (N:Nat):EnvOk Tryd.prog (z1jb N):=zh mixed zz (FnsOk.cons (zmb N) (FnsOk.cons (z6f N) (FnsOk.cons (z6r N) (FnsOk.cons (zhg N) (FnsOk.nil))))) (ItsOk.cons (zg N) (ItsOk.cons (ze N) (ItsOk.cons (za N) (ItsOk.nil))))
def z9h (N:Nat)(cid:(List UInt8))(key:(List UInt8))(nonce:(List UInt8))(t:DT0)(x8:DT0)(a:(DT6×(DT0×Unit)))(k0:Bool->Option (DT0×Int×Unit)):Option (DT0×Int×Unit) :=
 cond (decide ((64:Int)<=(((List.length a.2.1.2.1):Nat):Int)))
 (k0 true)
 (k0 (decide ((4144:Int)<(((List.length cid):Nat):Int))))
def z1fj (N:Nat)(x:z1k SQ3)(K:Ex->List A->Option (DT0×Int×Unit)):Option (DT0×Int×Unit) :=
 z9h N x.1 x.2.1 x.2.2.1 x.2.2.2.1 x.2.2.2.2.1 x.2.2.2.2.2.1 (fun a6=>(K .normal (mkS [(1,.v .str),(0,.v .str),(0,.v .str),(0,.box TT1),(3,.box TT1),(1,.box (.pair TT8 (.pair TT1 .unit))),(10,.v .bool)] 22 (x.1,x.2.1,x.2.2.1,x.2.2.2.1,x.2.2.2.2.1,x.2.2.2.2.2.1,a6,()))))
def z1dy (N:Nat):Hd (DT0×Int×Unit):=fun st K=>(unS SQ3 33 (restr [10,1,8,4,3,2] 0 st)).bind fun x=>z1fj N x K
def t2_76 (N:Nat):Tab (DT0×Int×Unit):=[]
theorem z1bz {N:Nat}{c:Ctx}(hb:Base Tryd.prog (z1jb N) c):z10 Tryd.prog c (zl zmd [0,0,1,1]) (z1dy N) :=
 z1h (s:=SQ3) (m:=33) (g:=z1fj N) [10,1,8,4,3,2] (zi hb N (t2_76 N) L_76 zmd TabOk.nil [0,0,1,1] _ rfl) (fun x K=>by kernel_rfl)
def z9i (N:Nat)(cid:(List UInt8))(key:(List UInt8))(nonce:(List UInt8))(t:DT0)(x8:DT0)(a:(DT6×(DT0×Unit)))(k0:DT0->Int->Option (DT0×Int×Unit))(k1:Option (DT0×Int×Unit)):Option (DT0×Int×Unit) :=
 z9h N cid key nonce t x8 a
 (fun x21=>cond x21
 (k0 (([]:List UInt8),(([]:List DT6),(([]:List UInt8),()))) (3:Int))
 (k1))
def z1g1 (N:Nat)(x:z1k SQ3)(K:Ex->List A->Option (DT0×Int×Unit)):Option (DT0×Int×Unit) :=
 z9i N x.1 x.2.1 x.2.2.1 x.2.2.2.1 x.2.2.2.2.1 x.2.2.2.2.2.1 (fun a0 a1=>(K .ret (mkS [(8,.box TT1),(0,.v (.int .i64))] 34 (a0,a1,())))) (K .normal (mkS SQ3 33 (x.1,x.2.1,x.2.2.1,x.2.2.2.1,x.2.2.2.2.1,x.2.2.2.2.2.1,())))
def z1eg (N:Nat):Hd (DT0×Int×Unit):=fun st K=>(unS SQ3 33 (restr [10,1,8,4,3,2] 0 st)).bind fun x=>z1g1 N x K
def t1_76 (N:Nat):Tab (DT0×Int×Unit):=[([0,0,1,1],z1dy N)]
theorem z1ch {N:Nat}{c:Ctx}(hb:Base Tryd.prog (z1jb N) c):z10 Tryd.prog c (zl zmd [0,1,1]) (z1eg N) :=
 z1h (s:=SQ3) (m:=33) (g:=z1g1 N) [10,1,8,4,3,2] (zi hb N (t1_76 N) L_76 zmd (TabOk.cons (z1bz hb) TabOk.nil) [0,1,1] _ rfl) (fun x K=>by kernel_rfl)
def z80 (N:Nat)(t:DT0)(cid:(List UInt8))(key:(List UInt8))(nonce:(List UInt8)):Option (DT0×Int×Unit) :=
 z9i N cid key nonce t (([]:List UInt8),(([]:List DT6),(([]:List UInt8),()))) ((([]:List UInt8),(([]:List UInt8),())),(t,()))
 (fun x8 x9=>some (x8,(x9,())))
 ((z8x N t.2.2.1).bind fun y =>
 (zco N y nonce key).bind fun y1 =>
 cond (y1.2.1 != (0:Int))
 (some ((([]:List UInt8),(([]:List DT6),(([]:List UInt8),()))),(y1.2.1,())))
 ((z1p N ((cid,(y1.1,())),(t,()))).bind fun y2 =>
 some (y2,((0:Int),()))))
def t_76 (N:Nat):Tab (DT0×Int×Unit):=[([0,1,1],z1eg N)]
theorem z16l (N:Nat)(x:z1k SQ60):z3v (z1jb N) N (t_76 N) L_76 Tryd.f10 (mkS SQ60 0 x) (z1r (.tup [TT1,(.int .i64)]) 4)=z80 N x.1 x.2.1 x.2.2.1 x.2.2.2.1:=by kernel_rfl
def zd3 (N:Nat):List A->Res:=z14 SQ60 (fun x=>z80 N x.1 x.2.1 x.2.2.1 x.2.2.2.1) (z3r (.tup [TT1,(.int .i64)]) 4)
theorem zlx (N:Nat):Contract Tryd.prog glob 10 (zd3 N) :=
 Contract.of (E:=z1jb N) (H:=t_76 N) (L:=L_76) (N:=N) (body:=zmd) (K:=(z1r (.tup [TT1,(.int .i64)]) 4)) (z1hn N) Tryd.func10 (by kernel_rfl) (by decide) (fun _ hb=>(TabOk.cons (z1ch hb) TabOk.nil)) (fun x y h=>by rw[z16l];exact h) (zq (s:=(.tup [TT1,(.int .i64)])) (m:=4))
def z18s:Code:=(Tryd.f8.body).getD .skip
def L_77:List (List Nat×List Nat):=[([0],[0,1,2,3]),([0,1],[8,9]),([1,1],[8,9])]
def E_77 (N:Nat):Env:=z1c tys glob [(17,ze9 N),(18,zap N)] [] [] [] false [] [(81,zf N),(83,zd N),(52,z8 N)]
theorem z1hm (N:Nat):EnvOk Tryd.prog (E_77 N):=zh mixed zz (FnsOk.cons (zmb N) (FnsOk.cons (zhb N) (FnsOk.nil))) (ItsOk.cons (zg N) (ItsOk.cons (ze N) (ItsOk.cons (za N) (ItsOk.nil))))
def z45 (N:Nat)(notary:(List UInt8))(nonce:(List UInt8))(key:(List UInt8))(text:(List UInt8)):Option ((List UInt8)×Int×Unit) :=
 (z6g N ([key,text]:List (List UInt8))).bind fun y =>
 (zco N notary nonce y).bind fun y1 =>
 some (y1.1,(y1.2.1,()))
def t_77 (N:Nat):Tab ((List UInt8)×Int×Unit):=[]
theorem z16k (N:Nat)(x:z1k SQ57):z3v (E_77 N) N (t_77 N) L_77 Tryd.f8 (mkS SQ57 0 x) (z1r (.tup [.str,(.int .i64)]) 4)=z45 N x.1 x.2.1 x.2.2.1 x.2.2.2.1:=by kernel_rfl
def zbb (N:Nat):List A->Res:=z14 SQ57 (fun x=>z45 N x.1 x.2.1 x.2.2.1 x.2.2.2.1) (z3r (.tup [.str,(.int .i64)]) 4)
theorem zjy (N:Nat):Contract Tryd.prog glob 8 (zbb N) :=
 Contract.of (E:=E_77 N) (H:=t_77 N) (L:=L_77) (N:=N) (body:=z18s) (K:=(z1r (.tup [.str,(.int .i64)]) 4)) (z1hm N) Tryd.func8 (by kernel_rfl) (by decide) (fun _ hb=>TabOk.nil) (fun x y h=>by rw[z16k];exact h) (zq (s:=(.tup [.str,(.int .i64)])) (m:=4))
def ztx:Code:=(Tryd.f71.body).getD .skip
def L_78:List (List Nat×List Nat):=[([0],[0]),([0,0,1],[9,0]),([1,0,1],[0]),([0,0,1,0,1],[2,3,4]),([1,0,1,0,1],[2,3,4]),([0,1,1],[5,0]),([0,0,1,1,1],[10,5,0]),([0,1,0,1,1,1],[10,5,0]),([0,0,0,1,0,1,1,1],[11,10,5,0]),([0,1,0,0,1,0,1,1,1],[10,5,0]),([1,0,1,0,0,1,0,1,1,1],[0,5]),([0,0,0,1,1,0,0,1,0,1,1,1],[5,0,6,10]),([1,0,0,1,1,0,0,1,0,1,1,1],[10,5,0]),([0,1,1,0,0,1,0,1,1,1],[10,5,0]),([1,1,1,0,0,1,0,1,1,1],[10,5,0]),([1,0,1,1,1],[0,5]),([0,1,1,1,1],[5,0]),([0,0,1,1,1,1,1],[27,0,5]),([1,0,1,1,1,1,1],[0,5]),([0,0,1,0,1,1,1,1,1],[2,3,4]),([1,0,1,0,1,1,1,1,1],[2,3,4]),(z13k,[2,3,4]),([1,1,1,1,1,1,1],[2,3,4])]
def E_78 (N:Nat):Env:=z1c tys glob [] [] [] [] false [] [(81,zf N),(83,zd N),(52,z8 N)]
theorem z1hl (N:Nat):EnvOk Tryd.prog (E_78 N):=zh mixed zz (FnsOk.nil) (ItsOk.cons (zg N) (ItsOk.cons (ze N) (ItsOk.cons (za N) (ItsOk.nil))))
def zg6 (N:Nat)(s:(List UInt8))(n:Int)(x10:Int)(rec:Int->Int->Option ((List UInt8)×(List UInt8)×Bool×Unit))(k0:Int->Option ((List UInt8)×(List UInt8)×Bool×Unit)):Option ((List UInt8)×(List UInt8)×Bool×Unit) :=
 cond (decide (x10<(8:Int)))
 (cond (inR x10 (List.length s))
 (rec (zu Go.BinOp.or IntKind.u64 (zkq IntKind.u64 n (8:Int)) (IntKind.wrap IntKind.u64 (((UInt8.toNat (List.getD s (Int.toNat x10) (0:UInt8))):Nat):Int))) (IntKind.wrap IntKind.i64 (x10+(1:Int))))
 (none))
 (k0 n)
def zg7 (N:Nat)(s:(List UInt8))(n:Int)(x10:Int)(k0:Int->Option ((List UInt8)×(List UInt8)×Bool×Unit)):Option ((List UInt8)×(List UInt8)×Bool×Unit) :=
 iter (fun (v:(Int×Int)) r=>zg6 N s v.1 v.2 (fun n x10=>(r (n,x10))) k0) N (n,x10)
def z1g0 (N:Nat)(i:(List UInt8))(v:(Int×Int))(r:(Int×Int)->Option ((List UInt8)×(List UInt8)×Bool×Unit))(K:Ex->List A->Option ((List UInt8)×(List UInt8)×Bool×Unit)):Option ((List UInt8)×(List UInt8)×Bool×Unit) :=
 zg6 N i v.1 v.2 (fun n x10=>(r (n,x10))) (fun a1=>(K (.exit 0) (mkS [(0,.v .str),(4,.v (.int .u64))] 28 (i,a1,()))))
def z1ef (N:Nat):Hd ((List UInt8)×(List UInt8)×Bool×Unit):=fun st K=>(unS [(0,.v .str),(4,.v (.int .u64)),(4,.v (.int .i64))] 23 (restr [10,5,0] 0 st)).bind fun x=>iter (fun v r=>z1g0 N ((fun x=>x.1) x) v r K) N ((fun x=>(x.2.1,x.2.2.1)) x)
def t1_78 (N:Nat):Tab ((List UInt8)×(List UInt8)×Bool×Unit):=[]
theorem z1cg {N:Nat}{c:Ctx}(hb:Base Tryd.prog (E_78 N) c):z10 Tryd.prog c (zl ztx [0,1,0,1,1,1]) (z1ef N) :=
 z2t (s:=[(0,.v .str),(4,.v (.int .u64)),(4,.v (.int .i64))]) (m:=23) (z1g0 N) [10,5,0] N (fun x=>x.1) (fun x=>(x.2.1,x.2.2.1)) (fun i v=>(i,v.1,v.2,())) (fun _=>rfl) (zi hb N (t1_78 N) L_78 ztx TabOk.nil [0,0,1,0,1,1,1] _ rfl) (fun i v r K=>by kernel_rfl)
def zh6 (N:Nat)(s:(List UInt8)):Option ((List UInt8)×(List UInt8)×Bool×Unit) :=
 cond (decide ((((List.length s):Nat):Int)<(8:Int)))
 (some (([]:List UInt8),(([]:List UInt8),(false,()))))
 (zg7 N s (0:Int) (0:Int)
 (fun n=>cond (decide (((0:Int)<=(8:Int))/\((8:Int)<=(((List.length s):Nat):Int))))
 (cond (decide ((IntKind.wrap IntKind.u64 (((List.length (cut s 8 (List.length s))):Nat):Int))<n))
 (some (([]:List UInt8),(([]:List UInt8),(false,()))))
 (cond (decide (((0:Int)<=n)/\(n<=(((List.length (cut s 8 (List.length s))):Nat):Int))))
 (cond (decide (((0:Int)<=n)/\(n<=(((List.length (cut s 8 (List.length s))):Nat):Int))))
 (some ((cut (cut s 8 (List.length s)) 0 (Int.toNat n)),((cut (cut s 8 (List.length s)) (Int.toNat n) (List.length (cut s 8 (List.length s)))),(true,()))))
 (none))
 (none)))
 (none)))
def t_78 (N:Nat):Tab ((List UInt8)×(List UInt8)×Bool×Unit):=[([0,1,0,1,1,1],z1ef N)]
theorem z16j (N:Nat)(x:z1k [(0,.v .str)]):z3v (E_78 N) N (t_78 N) L_78 Tryd.f71 (mkS [(0,.v .str)] 0 x) (z1r (.tup [.str,.str,.bool]) 1)=zh6 N x.1:=by kernel_rfl
def zjd (N:Nat):List A->Res:=z14 [(0,.v .str)] (fun x=>zh6 N x.1) (z3r (.tup [.str,.str,.bool]) 1)
theorem ztb (N:Nat):Contract Tryd.prog glob 71 (zjd N) :=
 Contract.of (E:=E_78 N) (H:=t_78 N) (L:=L_78) (N:=N) (body:=ztx) (K:=(z1r (.tup [.str,.str,.bool]) 1)) (z1hl N) Tryd.func71 (by kernel_rfl) (by decide) (fun _ hb=>(TabOk.cons (z1cg hb) TabOk.nil)) (fun x y h=>by rw[z16j];exact h) (zq (s:=(.tup [.str,.str,.bool])) (m:=1))
def ztw:Code:=(Tryd.f70.body).getD .skip
def L_79:List (List Nat×List Nat):=[([0],[3,0]),([0,1],[3,0]),([0,0,0,0,1],[9,3,0]),([1,0,0,0,1],[3,0]),([1,1,0,0,0,1],[0]),([0,0,1,0,0,1],[0,4,6,5]),([0,0,1,0,1,0,0,1],[24,0,5]),([1,0,1,0,1,0,0,1],[5,0]),([0,1,0,1,0,1,0,0,1],[0]),([1,1,0,1,0,0,1],[3,0]),([1,0,0,1],[3,0]),([1],[0])]
def E_79 (N:Nat):Env:=z1c tys glob [(71,zjd N)] [] [] [0] false [] []
theorem z1hk (N:Nat):EnvOk Tryd.prog (E_79 N):=zh mixed zz (FnsOk.cons (ztb N) (FnsOk.nil)) ItsOk.nil
def zao (N:Nat)(s:(List UInt8))(rec:(List UInt8)->Option (List ((List UInt8)×Bool×Unit)))(k0:Option (List ((List UInt8)×Bool×Unit)))(k1:Option (List ((List UInt8)×Bool×Unit))):Option (List ((List UInt8)×Bool×Unit)) :=
 cond (!(s == ([]:List UInt8)))
 ((zh6 N s).bind fun y =>
 zpd (y.1,(y.2.2.1,()))
 (cond (!y.2.2.1)
 (k0)
 (rec y.2.1))
 (k0))
 (k1)
def zfd (N:Nat)(s:(List UInt8))(k0:Option (List ((List UInt8)×Bool×Unit)))(k1:Option (List ((List UInt8)×Bool×Unit))):Option (List ((List UInt8)×Bool×Unit)) :=
 iter (fun (v:(List UInt8)) r=>zao N v (fun s=>(r s)) k0 k1) N s
def z1fz (N:Nat)(i:Unit)(v:(List UInt8))(r:(List UInt8)->Option (List ((List UInt8)×Bool×Unit)))(K:Ex->List A->Option (List ((List UInt8)×Bool×Unit))):Option (List ((List UInt8)×Bool×Unit)) :=
 zao N v (fun s=>(r s)) (K .ret (mkS [(0,.yld)] 25 ((),()))) (K (.exit 0) (mkS [(0,.yld)] 25 ((),())))
def z1ee (N:Nat):Hd (List ((List UInt8)×Bool×Unit)):=fun st K=>(unS [(0,.yld),(2,.v .str)] 22 (restr [3,0] 0 st)).bind fun x=>iter (fun v r=>z1fz N ((fun x=>()) x) v r K) N ((fun x=>x.2.1) x)
def t1_79 (N:Nat):Tab (List ((List UInt8)×Bool×Unit)):=[]
theorem z1cf {N:Nat}{G:GY [.str,.bool]}(hG:zee G)(hev:z1hb G Tryd.prog (E_79 N) N L_79 ztw):YOk G Tryd.prog (zl ztw [0,1]) (z1ee N) :=
 zk9 hG (s:=[(0,.yld),(2,.v .str)]) (m:=22) (z1fz N) [3,0] N (fun x=>()) (fun x=>x.2.1) (fun i v=>((),v,())) (fun _=>rfl) (hev (t1_79 N) TabOkY.nil [0,0,1]) (fun i v r K=>by kernel_rfl)
def z9k (N:Nat)(x1:(List UInt8)):Option (List ((List UInt8)×Bool×Unit)) :=
 zfd N x1
 (some ([]:List ((List UInt8)×(Bool×Unit))))
 (some ([]:List ((List UInt8)×(Bool×Unit))))
def t_79 (N:Nat):Tab (List ((List UInt8)×Bool×Unit)):=[([0,1],z1ee N)]
theorem z16i (N:Nat)(x:T.den (.pair (.ptr .str) .unit)):z1a8 (E_79 N) [.str,.bool] zpd N (t_79 N) L_79 Tryd.f70 [.v (.ptr .str) x.1]=z9k N x.1:=by kernel_rfl
def z1z (N:Nat):Dat->ItRes:=zwx (ts:=[.str,.bool]) (.pair (.ptr .str) .unit) (fun x=>z9k N x.1)
theorem z2d (N:Nat):ItOk Tryd.prog glob 70 (z1z N):=ItOk.of (ts:=[.str,.bool]) (E:=E_79 N) (H:=t_79 N) (L:=L_79) (N:=N) (body:=ztw) (z1hk N) rfl Tryd.func70 (by kernel_rfl) (by decide) (fun G hG hev=>(TabOkY.cons (z1cf hG hev) TabOkY.nil)) (fun x y h=>⟨_,rfl,by rw[z16i];exact h⟩)
def z18r:Code:=(Tryd.f58.body).getD .skip
def L_80:List (List Nat×List Nat):=[([0],[1]),([0,1],[2]),([1,1],[2])]
def E_80 (N:Nat):Env:=z1c tys glob [] [] [] [] false [] [(70,z1z N),(81,zf N),(83,zd N),(52,z8 N)]
theorem z1hj (N:Nat):EnvOk Tryd.prog (E_80 N):=zh mixed zz (FnsOk.nil) (ItsOk.cons (z2d N) (ItsOk.cons (zg N) (ItsOk.cons (ze N) (ItsOk.cons (za N) (ItsOk.nil)))))
def zo0 (N:Nat)(s:(List UInt8)):Option z5q :=
 some (s,())
def t_80 (N:Nat):Tab z5q:=[]
theorem z16h (N:Nat)(x:z1k [(0,.v .str)]):z3v (E_80 N) N (t_80 N) L_80 Tryd.f58 (mkS [(0,.v .str)] 0 x) (z1r (.v (.fn 70 (.pair (.ptr .str) .unit))) 1)=zo0 N x.1:=by kernel_rfl
def zfc (N:Nat):List A->Res:=z14 [(0,.v .str)] (fun x=>zo0 N x.1) (z3r (.v (.fn 70 (.pair (.ptr .str) .unit))) 1)
theorem zp4 (N:Nat):Contract Tryd.prog glob 58 (zfc N) :=
 Contract.of (E:=E_80 N) (H:=t_80 N) (L:=L_80) (N:=N) (body:=z18r) (K:=(z1r (.v (.fn 70 (.pair (.ptr .str) .unit))) 1)) (z1hj N) Tryd.func58 (by kernel_rfl) (by decide) (fun _ hb=>TabOk.nil) (fun x y h=>by rw[z16h];exact h) (zq (s:=(.v (.fn 70 (.pair (.ptr .str) .unit)))) (m:=1))
def zpn:Code:=(Tryd.f35.body).getD .skip
def L_81:List (List Nat×List Nat):=[([0],[0,2,3]),([0,1],[0,4,2,3]),([0,0,1,1],[8,4,2,3]),([0,1,0,1,1],[4,2,3]),(z14m,[10,2,3,4,5]),([1,0,0,1,0,1,1],[6,2,3,4,5]),([0,0,0,1,0,1,0,1,1],[12,2,3,4,5]),([1,0,0,1,0,1,0,1,1],[4,5,2,3]),([0,0,1,0,0,1,0,1,0,1,1],[2,3]),([1,0,1,0,0,1,0,1,0,1,1],[2,3]),([1,0,1,0,1,0,1,1],[4,2,3]),([1,0,1,0,1,1],[4,2,3]),([1,0,1,1],[4,2,3]),([0,1,1,1],[2,3]),([1,1,1,1],[2,3])]
def z1ja (N:Nat):Env:=z1c tys glob [(58,zfc N)] [] [] [] false [(4,(.own .str))] [(70,z1z N),(81,zf N),(83,zd N),(52,z8 N)]
theorem z1hi (N:Nat):EnvOk Tryd.prog (z1ja N):=zh mixed zz (FnsOk.cons (zp4 N) (FnsOk.nil)) (ItsOk.cons (z2d N) (ItsOk.cons (zg N) (ItsOk.cons (ze N) (ItsOk.cons (za N) (ItsOk.nil)))))
def z6t (N:Nat)(x2_1:(List (List UInt8)))(x3_1:Bool)(parts_1:(List (List UInt8)))(y:((List UInt8)×Bool×Unit))(rec:(List (List UInt8))->Option ((List (List UInt8))×Bool×Unit))(k0:(List (List UInt8))->Bool->(List (List UInt8))->Option ((List (List UInt8))×Bool×Unit))(k1:(List (List UInt8))->Option ((List (List UInt8))×Bool×Unit)):Option ((List (List UInt8))×Bool×Unit) :=
 cond (!y.2.1)
 (k0 ([]:List (List UInt8)) false parts_1)
 (cond (decide ((((List.length parts_1)+1)*16)<=70368744177664))
 (rec (parts_1++([y.1]:List (List UInt8))))
 (none))
def z6u (N:Nat)(x2:(List (List UInt8)))(x3:Bool)(parts:(List (List UInt8)))(x8:z5q):Option (List ((List UInt8)×Bool×Unit)):=(z9k N x8.1)
def zce (N:Nat)(x2:(List (List UInt8)))(x3:Bool)(parts:(List (List UInt8)))(x8:z5q):((List (List UInt8))×Bool):=(x2,x3)
def zh7 (N:Nat)(x2:(List (List UInt8)))(x3:Bool)(parts:(List (List UInt8)))(x8:z5q):(List (List UInt8)):=parts
def zh8 (N:Nat)(x2:(List (List UInt8)))(x3:Bool)(parts:(List (List UInt8)))(x8:z5q)(k0:(List (List UInt8))->Bool->(List (List UInt8))->Option ((List (List UInt8))×Bool×Unit))(k1:(List (List UInt8))->Option ((List (List UInt8))×Bool×Unit)):Option ((List (List UInt8))×Bool×Unit) :=
 (z6u N x2 x3 parts x8).bind fun ys=>zbe (fun (y:((List UInt8)×Bool×Unit)) (v:(List (List UInt8))) r=>z6t N x2 x3 v y (fun parts_1=>(r parts_1)) k0 k1) (fun (v:(List (List UInt8)))=>k1 v) ys parts
def z1fy (N:Nat)(y:((List UInt8)×Bool×Unit))(i:((List (List UInt8))×Bool))(v:(List (List UInt8)))(r:(List (List UInt8))->Option ((List (List UInt8))×Bool×Unit))(K:Ex->List A->Option ((List (List UInt8))×Bool×Unit)):Option ((List (List UInt8))×Bool×Unit) :=
 z6t N i.1 i.2 v y (fun parts_1=>(r parts_1)) (fun a0 a1 a2=>(K .ret (mkS SQ23 13 (a0,a1,a2,())))) (fun a2=>(K .normal (mkS SQ23 13 (i.1,i.2,a2,()))))
def z1ed (N:Nat):Hd ((List (List UInt8))×Bool×Unit):=fun st K=>(unS [(2,.box (.sl .str)),(0,.box .bool),(0,.box (.own .str)),(3,.v (.fn 70 (.pair (.ptr .str) .unit)))] 9 (restr [8,4,2,3] 0 st)).bind fun x=>((fun x=>z6u N x.1 x.2.1 x.2.2.1 x.2.2.2.1) x).bind fun xs=>zbe (fun y v r=>z1fy N y ((fun x=>zce N x.1 x.2.1 x.2.2.1 x.2.2.2.1) x) v r K) (fun v=>K .normal (mkS SQ23 13 ((fun i v=>(i.1,i.2,v,())) ((fun x=>zce N x.1 x.2.1 x.2.2.1 x.2.2.2.1) x) v))) xs ((fun x=>zh7 N x.1 x.2.1 x.2.2.1 x.2.2.2.1) x)
theorem z1ce {N:Nat}{c:Ctx}(hb:Base Tryd.prog (z1ja N) c):z10 Tryd.prog c (zl zpn [0,1,0,1,1]) (z1ed N) :=
 z120 (ts:=[.str,.bool]) (s:=[(2,.box (.sl .str)),(0,.box .bool),(0,.box (.own .str)),(3,.v (.fn 70 (.pair (.ptr .str) .unit)))]) (m:=9) (s2:=SQ23) (m2:=13) [8,4,2,3] (fun x=>z6u N x.1 x.2.1 x.2.2.1 x.2.2.2.1) (fun x=>zce N x.1 x.2.1 x.2.2.1 x.2.2.2.1) (fun x=>zh7 N x.1 x.2.1 x.2.2.1 x.2.2.2.1) (fun i v=>(i.1,i.2,v,())) (rfF (z1ja N) N [.str,.bool] (zl zpn [0,1,0,1,1])) (z1fy N) (zi hb N [] L_81 zpn TabOk.nil [0,1,0,1,1] _ rfl) (fun x K=>by kernel_rfl) (fun y i v r K=>by kernel_rfl)
def zbf (N:Nat)(s:(List UInt8)):Option ((List (List UInt8))×Bool×Unit) :=
 zh8 N ([]:List (List UInt8)) false ([]:List (List UInt8)) (s,())
 (fun x2 x3 parts=>some (x2,(x3,())))
 (fun parts_1=>some (parts_1,(true,())))
def t_81 (N:Nat):Tab ((List (List UInt8))×Bool×Unit):=[([0,1,0,1,1],z1ed N)]
theorem z16g (N:Nat)(x:z1k [(0,.v .str)]):z3v (z1ja N) N (t_81 N) L_81 Tryd.f35 (mkS [(0,.v .str)] 0 x) (z1r (.tup [(.sl .str),.bool]) 1)=zbf N x.1:=by kernel_rfl
def zfg (N:Nat):List A->Res:=z14 [(0,.v .str)] (fun x=>zbf N x.1) (z3r (.tup [(.sl .str),.bool]) 1)
theorem zp6 (N:Nat):Contract Tryd.prog glob 35 (zfg N) :=
 Contract.of (E:=z1ja N) (H:=t_81 N) (L:=L_81) (N:=N) (body:=zpn) (K:=(z1r (.tup [(.sl .str),.bool]) 1)) (z1hi N) Tryd.func35 (by kernel_rfl) (by decide) (fun _ hb=>(TabOk.cons (z1ce hb) TabOk.nil)) (fun x y h=>by rw[z16g];exact h) (zq (s:=(.tup [(.sl .str),.bool])) (m:=1))
def zcp:Code:=(Tryd.f19.body).getD .skip
def z1ao:List (List Nat×List Nat):=[([0],[0,1,4,5]),([0,0,1],[6,7,4,5]),([0,0,1,0,1],[19,6,7,4,5]),([1,0,1,0,1],[7,4,5,6]),([0,0,1,0,1,0,1],[4,5,6]),([1,0,1,0,1,0,1],[4,5,6]),([0,1,1,0,1],[9,8,4,5,6]),([0,0,1,1,1,0,1],[32,8,4,5,6]),([1,0,1,1,1,0,1],[8,4,5,6]),([0,0,1,0,1,1,1,0,1],[4,5,6]),([1,0,1,0,1,1,1,0,1],[4,5,6]),([0,0,1,1,1,1,1,0,1],z110),(z1ak,z110),([0,0,0,1,0,1,1,1,1,1,0,1],[36,35,33,34,5,6,4]),([0,1,0,0,1,0,1,1,1,1,1,0,1],[35,33,34,5,6,4]),([1,0,1,0,0,1,0,1,1,1,1,1,0,1],[4,5,6]),([0,0,0,1,1,0,0,1,0,1,1,1,1,1,0,1],[10,11,35,34,33,5,6,4]),([0,1,0,0,1,1,0,0,1,0,1,1,1,1,1,0,1],[40,11,35,34,33,5,6,4]),([0,0,1,1,0,0,1,1,0,0,1,0,1,1,1,1,1,0,1],[41,11,35,34,33,5,6,40,4]),([1,0,1,1,0,0,1,1,0,0,1,0,1,1,1,1,1,0,1],z110),([0,1,1,0,1,1,0,0,1,1,0,0,1,0,1,1,1,1,1,0,1],[44,11,35,34,33,4,6]),([1,1,1,0,1,1,0,0,1,1,0,0,1,0,1,1,1,1,1,0,1],z110),([0,1,1,1,1,0,1,1,0,0,1,1,0,0,1,0,1,1,1,1,1,0,1],[4,5,6]),([1,1,1,1,1,0,1,1,0,0,1,1,0,0,1,0,1,1,1,1,1,0,1],[4,5,6]),([0,1,1,1,0,1,1,0,0,1,1,0,0,1,0,1,1,1,1,1,0,1],z110),([0,1,0,1,1,0,0,1,1,0,0,1,0,1,1,1,1,1,0,1],z110),([1,1,0,0,1,1,0,0,1,0,1,1,1,1,1,0,1],z110),([0,1,1,0,0,1,0,1,1,1,1,1,0,1],z110),([1,1,1,0,0,1,0,1,1,1,1,1,0,1],z110),([1,0,1,1,1,1,1,0,1],[4,5,6]),([0,1,1,1,1,1,1,0,1],[4,5,6]),([1,1,1,1,1,1,1,0,1],[4,5,6]),([1],[4,5,6])]
def z1a3 (N:Nat):Env:=z1c tys glob [(35,zfg N),(34,zea N)] [] [] [] false [] [(70,z1z N),(81,zf N),(83,zd N),(52,z8 N)]
theorem z1hh (N:Nat):EnvOk Tryd.prog (z1a3 N):=zh mixed zz (FnsOk.cons (zp6 N) (FnsOk.cons (zmc N) (FnsOk.nil))) (ItsOk.cons (z2d N) (ItsOk.cons (zg N) (ItsOk.cons (ze N) (ItsOk.cons (za N) (ItsOk.nil)))))
def zaj (N:Nat)(key:(List UInt8))(text:(List UInt8))(e:Int)(parts:(List (List UInt8)))(ok:Bool)(k0:Bool->Option DT9):Option DT9 :=
 cond (!ok)
 (k0 true)
 (k0 (decide ((((List.length parts):Nat):Int)<(2:Int))))
def z1fi (N:Nat)(x:z1k SQ6)(K:Ex->List A->Option DT9):Option DT9 :=
 zaj N x.1 x.2.1 x.2.2.1 x.2.2.2.1 x.2.2.2.2.1 (fun a4=>(K .normal (mkS [(4,.v .str),(0,.v .str),(0,.v (.int .i64)),(1,.v (.sl .str)),(23,.v .bool)] 18 (x.1,x.2.1,x.2.2.1,x.2.2.2.1,a4,()))))
def z1dx (N:Nat):Hd DT9:=fun st K=>(unS SQ6 41 (restr [9,8,4,5,6] 0 st)).bind fun x=>z1fi N x K
def t2_82 (N:Nat):Tab DT9:=[]
theorem z1by {N:Nat}{c:Ctx}(hb:Base Tryd.prog (z1a3 N) c):z10 Tryd.prog c (zl zcp [0,0,1,1,1,0,1]) (z1dx N) :=
 z1h (s:=SQ6) (m:=41) (g:=z1fi N) [9,8,4,5,6] (zi hb N (t2_82 N) z1ao zcp TabOk.nil [0,0,1,1,1,0,1] _ rfl) (fun x K=>by kernel_rfl)
def zak (N:Nat)(key:(List UInt8))(text:(List UInt8))(e:Int)(parts:(List (List UInt8)))(ok:Bool)(k0:(List UInt8)->(List UInt8)->Int->Option DT9)(k1:Option DT9):Option DT9 :=
 zaj N key text e parts ok
 (fun x32=>cond x32
 (k0 ([]:List UInt8) ([]:List UInt8) (2:Int))
 (k1))
def z1fx (N:Nat)(x:z1k SQ6)(K:Ex->List A->Option DT9):Option DT9 :=
 zak N x.1 x.2.1 x.2.2.1 x.2.2.2.1 x.2.2.2.2.1 (fun a0 a1 a2=>(K .ret (mkS SQ67 44 (a0,a1,a2,())))) (K .normal (mkS SQ17 42 (x.1,x.2.1,x.2.2.1,x.2.2.2.1,())))
def z1ec (N:Nat):Hd DT9:=fun st K=>(unS SQ6 41 (restr [9,8,4,5,6] 0 st)).bind fun x=>z1fx N x K
def t1_82 (N:Nat):Tab DT9:=[([0,0,1,1,1,0,1],z1dx N)]
theorem z1cd {N:Nat}{c:Ctx}(hb:Base Tryd.prog (z1a3 N) c):z10 Tryd.prog c (zl zcp [0,1,1,1,0,1]) (z1ec N) :=
 z1h (s:=SQ6) (m:=41) (g:=z1fx N) [9,8,4,5,6] (zi hb N (t1_82 N) z1ao zcp (TabOk.cons (z1by hb) TabOk.nil) [0,1,1,1,0,1] _ rfl) (fun x K=>by kernel_rfl)
def z5v (N:Nat)(e:Int)(x33:(List (List UInt8)))(x34:Int)(key:(List UInt8))(text:(List UInt8))(x35:Int)(rec:(List UInt8)->(List UInt8)->Int->Option DT9)(k0:(List UInt8)->(List UInt8)->Int->Option DT9):Option DT9 :=
 cond (decide (x35<x34))
 (cond (inR x35 (List.length x33))
 (cond (x35 == (0:Int))
 (rec (List.getD x33 (Int.toNat x35) ([]:List UInt8)) text (IntKind.wrap IntKind.i64 (x35+(1:Int))))
 (cond (x35 == (1:Int))
 (rec key (List.getD x33 (Int.toNat x35) ([]:List UInt8)) (IntKind.wrap IntKind.i64 (x35+(1:Int))))
 (k0 ([]:List UInt8) ([]:List UInt8) (2:Int))))
 (none))
 (k0 key text e)
def zah (N:Nat)(key:(List UInt8))(text:(List UInt8))(e:Int)(x33:(List (List UInt8)))(x34:Int)(x35:Int)(k0:(List UInt8)->(List UInt8)->Int->Option DT9):Option DT9 :=
 iter (fun (v:((List UInt8)×(List UInt8)×Int)) r=>z5v N e x33 x34 v.1 v.2.1 v.2.2 (fun key text x35=>(r (key,text,x35))) k0) N (key,text,x35)
def z1fc (N:Nat)(i:(Int×(List (List UInt8))×Int))(v:((List UInt8)×(List UInt8)×Int))(r:((List UInt8)×(List UInt8)×Int)->Option DT9)(K:Ex->List A->Option DT9):Option DT9 :=
 z5v N i.1 i.2.1 i.2.2 v.1 v.2.1 v.2.2 (fun key text x35=>(r (key,text,x35))) (fun a0 a1 a2=>(K (.exit 0) (mkS SQ67 44 (a0,a1,a2,()))))
def z1dr (N:Nat):Hd DT9:=fun st K=>(unS SQ29 15 (restr z110 0 st)).bind fun x=>iter (fun v r=>z1fc N ((fun x=>(x.2.2.1,x.2.2.2.1,x.2.2.2.2.1)) x) v r K) N ((fun x=>(x.1,x.2.1,x.2.2.2.2.2.1)) x)
def t4_82 (N:Nat):Tab DT9:=[]
theorem z1bs {N:Nat}{c:Ctx}(hb:Base Tryd.prog (z1a3 N) c):z10 Tryd.prog c (zl zcp z1ak) (z1dr N) :=
 z2t (s:=SQ29) (m:=15) (z1fc N) z110 N (fun x=>(x.2.2.1,x.2.2.2.1,x.2.2.2.2.1)) (fun x=>(x.1,x.2.1,x.2.2.2.2.2.1)) (fun i v=>(v.1,v.2.1,i.1,i.2.1,i.2.2,v.2.2,())) (fun _=>rfl) (zi hb N (t4_82 N) z1ao zcp TabOk.nil [0,0,1,0,1,1,1,1,1,0,1] _ rfl) (fun i v r K=>by kernel_rfl)
def zai (N:Nat)(key:(List UInt8))(text:(List UInt8))(e:Int)(parts:(List (List UInt8)))(k0:(List UInt8)->(List UInt8)->Int->Option DT9):Option DT9 :=
 zah N key text e parts (((List.length parts):Nat):Int) (0:Int)
 (fun zxp text1 e1=>k0 zxp text1 e1)
def z1ff (N:Nat)(x:z1k SQ17)(K:Ex->List A->Option DT9):Option DT9 :=
 zai N x.1 x.2.1 x.2.2.1 x.2.2.2.1 (fun a0 a1 a2=>(K .normal (mkS SQ67 44 (a0,a1,a2,()))))
def z1du (N:Nat):Hd DT9:=fun st K=>(unS SQ17 42 (restr [8,4,5,6] 0 st)).bind fun x=>z1ff N x K
def t3_82 (N:Nat):Tab DT9:=[(z1ak,z1dr N)]
theorem z1bv {N:Nat}{c:Ctx}(hb:Base Tryd.prog (z1a3 N) c):z10 Tryd.prog c (zl zcp z1ah) (z1du N) :=
 z1h (s:=SQ17) (m:=42) (g:=z1ff N) [8,4,5,6] (zi hb N (t3_82 N) z1ao zcp (TabOk.cons (z1bs hb) TabOk.nil) z1ah _ rfl) (fun x K=>by kernel_rfl)
def z4t (N:Nat)(notary:(List UInt8))(ticket:(List UInt8)):Option DT9 :=
 (z64 N notary ticket).bind fun y =>
 cond (y.2.1 != (0:Int))
 (some (([]:List UInt8),(([]:List UInt8),(y.2.1,()))))
 ((zbf N y.1).bind fun y1 =>
 zak N ([]:List UInt8) ([]:List UInt8) y.2.1 y1.1 y1.2.1
 (fun key text e=>some (key,(text,(e,()))))
 (zai N ([]:List UInt8) ([]:List UInt8) y.2.1 y1.1
 (fun zxp text1 e1=>some (zxp,(text1,(e1,()))))))
def t_82 (N:Nat):Tab DT9:=[([0,1,1,1,0,1],z1ec N),(z1ah,z1du N)]
theorem z16f (N:Nat)(x:z1k SQ2):z3v (z1a3 N) N (t_82 N) z1ao Tryd.f19 (mkS SQ2 0 x) (z1r (.tup [.str,.str,(.int .i64)]) 2)=z4t N x.1 x.2.1:=by kernel_rfl
def z9d (N:Nat):List A->Res:=z14 SQ2 (fun x=>z4t N x.1 x.2.1) (z3r (.tup [.str,.str,(.int .i64)]) 2)
theorem zfa (N:Nat):Contract Tryd.prog glob 19 (z9d N) :=
 Contract.of (E:=z1a3 N) (H:=t_82 N) (L:=z1ao) (N:=N) (body:=zcp) (K:=(z1r (.tup [.str,.str,(.int .i64)]) 2)) (z1hh N) Tryd.func19 (by kernel_rfl) (by decide) (fun _ hb=>(TabOk.cons (z1cd hb) (TabOk.cons (z1bv hb) TabOk.nil))) (fun x y h=>by rw[z16f];exact h) (zq (s:=(.tup [.str,.str,(.int .i64)])) (m:=2))
def ztv:Code:=(Tryd.f9.body).getD .skip
def L_83:List (List Nat×List Nat):=[([0],[0,1,6,2]),([0,1],[10,6,1,8,2]),([0,0,1,1],[22,10,6,1,8,2]),([1,0,1,1],[1,8,2,6]),([0,0,1,0,1,1],[6,7]),([1,0,1,0,1,1],[6,7]),([0,1,1,1],[2,11,6]),([0,0,1,1,1,1],[32,31,30,11,6]),(zw1,[32,31,30,11,6]),([0,0,0,1,0,1,1,1,1],[33,30,32,11,6,31]),([0,1,0,0,1,0,1,1,1,1],[30,32,11,6,31]),([1,0,1,0,0,1,0,1,1,1,1],[11,6]),([0,0,0,1,1,0,0,1,0,1,1,1,1],[11,13,6,32,31,30]),([0,1,0,0,1,1,0,0,1,0,1,1,1,1],[10,6,32,31,30,11]),([0,1,1,0,0,1,1,0,0,1,0,1,1,1,1],[43,10,6,32,31,30,11]),([1,1,1,0,0,1,1,0,0,1,0,1,1,1,1],[32,31,30,11,6]),([0,0,1,1,1,0,0,1,1,0,0,1,0,1,1,1,1],[6,7]),([1,0,1,1,1,0,0,1,1,0,0,1,0,1,1,1,1],[6,7]),([0,1,1,0,0,1,0,1,1,1,1],[32,31,30,11,6]),([1,1,1,0,0,1,0,1,1,1,1],[32,31,30,11,6]),([1,0,1,1,1,1],[11,6]),([0,1,1,1,1,1],[6,7]),([1,1,1,1,1,1],[6,7])]
def E_83 (N:Nat):Env:=z1c tys glob [(19,z9d N),(7,z5x N),(5,z4i N)] [] [] [] false [] [(70,z1z N),(81,zf N),(83,zd N),(52,z8 N)]
theorem z1hg (N:Nat):EnvOk Tryd.prog (E_83 N):=zh mixed zz (FnsOk.cons (zfa N) (FnsOk.cons (z8n N) (FnsOk.cons (z73 N) (FnsOk.nil)))) (ItsOk.cons (z2d N) (ItsOk.cons (zg N) (ItsOk.cons (ze N) (ItsOk.cons (za N) (ItsOk.nil)))))
def zm4 (N:Nat)(x6:DT0)(x30:(List (List UInt8)))(x31:Int)(t:DT0)(x32:Int)(rec:DT0->Int->Option (DT0×Int×Unit))(k0:DT0->Int->Option (DT0×Int×Unit))(k1:DT0->Option (DT0×Int×Unit)):Option (DT0×Int×Unit) :=
 cond (decide (x32<x31))
 (cond (inR x32 (List.length x30))
 ((z59 N t (List.getD x30 (Int.toNat x32) ([]:List UInt8))).bind fun y =>
 cond (y.2.1 != (0:Int))
 (k0 (([]:List UInt8),(([]:List DT6),(([]:List UInt8),()))) y.2.1)
 (rec y.1 (IntKind.wrap IntKind.i64 (x32+(1:Int)))))
 (none))
 (k1 t)
def zm5 (N:Nat)(x6:DT0)(t:DT0)(x30:(List (List UInt8)))(x31:Int)(x32:Int)(k0:DT0->Int->Option (DT0×Int×Unit))(k1:DT0->Option (DT0×Int×Unit)):Option (DT0×Int×Unit) :=
 iter (fun (v:(DT0×Int)) r=>zm4 N x6 x30 x31 v.1 v.2 (fun t x32=>(r (t,x32))) k0 k1) N (t,x32)
def z1fw (N:Nat)(i:(DT0×(List (List UInt8))×Int))(v:(DT0×Int))(r:(DT0×Int)->Option (DT0×Int×Unit))(K:Ex->List A->Option (DT0×Int×Unit)):Option (DT0×Int×Unit) :=
 zm4 N i.1 i.2.1 i.2.2 v.1 v.2 (fun t x32=>(r (t,x32))) (fun a0 a1=>(K .ret (mkS [(6,.box TT1),(0,.v (.int .i64))] 40 (a0,a1,())))) (fun a1=>(K (.exit 0) (mkS [(6,.box TT1),(4,.box TT1)] 36 (i.1,a1,()))))
def z1eb (N:Nat):Hd (DT0×Int×Unit):=fun st K=>(unS SQ48 15 (restr [32,31,30,11,6] 0 st)).bind fun x=>iter (fun v r=>z1fw N ((fun x=>(x.1,x.2.2.1,x.2.2.2.1)) x) v r K) N ((fun x=>(x.2.1,x.2.2.2.2.1)) x)
def t1_83 (N:Nat):Tab (DT0×Int×Unit):=[]
theorem z1cc {N:Nat}{c:Ctx}(hb:Base Tryd.prog (E_83 N) c):z10 Tryd.prog c (zl ztv zw1) (z1eb N) :=
 z2t (s:=SQ48) (m:=15) (z1fw N) [32,31,30,11,6] N (fun x=>(x.1,x.2.2.1,x.2.2.2.1)) (fun x=>(x.2.1,x.2.2.2.2.1)) (fun i v=>(i.1,v.1,i.2.1,i.2.2,v.2,())) (fun _=>rfl) (zi hb N (t1_83 N) L_83 ztv TabOk.nil z1ai _ rfl) (fun i v r K=>by kernel_rfl)
def zoa (N:Nat)(notary:(List UInt8))(ticket:(List UInt8))(caveats:(List (List UInt8))):Option (DT0×Int×Unit) :=
 (z4t N notary ticket).bind fun y =>
 cond (y.2.2.1 != (0:Int))
 (some ((([]:List UInt8),(([]:List DT6),(([]:List UInt8),()))),(y.2.2.1,())))
 ((z4j N y.1 ticket).bind fun y1 =>
 zm5 N (([]:List UInt8),(([]:List DT6),(([]:List UInt8),()))) (ticket,(([]:List DT6),(y1,()))) caveats (((List.length caveats):Nat):Int) (0:Int)
 (fun x6 x7=>some (x6,(x7,())))
 (fun t=>some (t,((0:Int),()))))
def t_83 (N:Nat):Tab (DT0×Int×Unit):=[(zw1,z1eb N)]
theorem z16e (N:Nat)(x:z1k SQ71):z3v (E_83 N) N (t_83 N) L_83 Tryd.f9 (mkS SQ71 0 x) (z1r (.tup [TT1,(.int .i64)]) 3)=zoa N x.1 x.2.1 x.2.2.1:=by kernel_rfl
def zo9 (N:Nat):List A->Res:=z14 SQ71 (fun x=>zoa N x.1 x.2.1 x.2.2.1) (z3r (.tup [TT1,(.int .i64)]) 3)
theorem z10d (N:Nat):Contract Tryd.prog glob 9 (zo9 N) :=
 Contract.of (E:=E_83 N) (H:=t_83 N) (L:=L_83) (N:=N) (body:=ztv) (K:=(z1r (.tup [TT1,(.int .i64)]) 3)) (z1hg N) Tryd.func9 (by kernel_rfl) (by decide) (fun _ hb=>(TabOk.cons (z1cc hb) TabOk.nil)) (fun x y h=>by rw[z16e];exact h) (zq (s:=(.tup [TT1,(.int .i64)])) (m:=3))
def ztu:Code:=(Tryd.f9.body).getD .skip
def L_84:List (List Nat×List Nat):=[([0],[0,1,6,2]),([0,1],[10,6,1,8,2]),([0,0,1,1],[22,10,6,1,8,2]),([1,0,1,1],[1,8,2,6]),([0,0,1,0,1,1],[6,7]),([1,0,1,0,1,1],[6,7]),([0,1,1,1],[2,11,6]),([0,0,1,1,1,1],[32,31,30,11,6]),(zw1,[32,31,30,11,6]),([0,0,0,1,0,1,1,1,1],[33,30,32,11,6,31]),([0,1,0,0,1,0,1,1,1,1],[30,32,11,6,31]),([1,0,1,0,0,1,0,1,1,1,1],[11,6]),([0,0,0,1,1,0,0,1,0,1,1,1,1],[11,13,6,32,31,30]),([0,1,0,0,1,1,0,0,1,0,1,1,1,1],[10,6,32,31,30,11]),([0,1,1,0,0,1,1,0,0,1,0,1,1,1,1],[43,10,6,32,31,30,11]),([1,1,1,0,0,1,1,0,0,1,0,1,1,1,1],[32,31,30,11,6]),([0,0,1,1,1,0,0,1,1,0,0,1,0,1,1,1,1],[6,7]),([1,0,1,1,1,0,0,1,1,0,0,1,0,1,1,1,1],[6,7]),([0,1,1,0,0,1,0,1,1,1,1],[32,31,30,11,6]),([1,1,1,0,0,1,0,1,1,1,1],[32,31,30,11,6]),([1,0,1,1,1,1],[11,6]),([0,1,1,1,1,1],[6,7]),([1,1,1,1,1,1],[6,7])]
def E_84 (N:Nat):Env:=z1c tys glob [(19,z9d N),(7,z5x N),(5,z4i N)] [] [] [] false [] [(70,z1z N),(81,zf N),(83,zd N),(52,z8 N)]
theorem z1hf (N:Nat):EnvOk Tryd.prog (E_84 N):=zh mixed zz (FnsOk.cons (zfa N) (FnsOk.cons (z8n N) (FnsOk.cons (z73 N) (FnsOk.nil)))) (ItsOk.cons (z2d N) (ItsOk.cons (zg N) (ItsOk.cons (ze N) (ItsOk.cons (za N) (ItsOk.nil)))))
def zrl (N:Nat)(x6:DT0)(t:DT0)(x31:Int)(x32:Int)(rec:Option (DT0×Int×Unit))(k0:Option (DT0×Int×Unit)):Option (DT0×Int×Unit) :=
 cond (decide (x32<x31))
 (none)
 (k0)
def z10a (N:Nat)(x6:DT0)(t:DT0)(x31:Int)(x32:Int)(k0:Option (DT0×Int×Unit)):Option (DT0×Int×Unit) :=
 iter (fun (v:Unit) r=>zrl N x6 t x31 x32 (r ()) k0) N ()
def z1fv (N:Nat)(i:(DT0×DT0×Int×Int))(v:Unit)(r:Unit->Option (DT0×Int×Unit))(K:Ex->List A->Option (DT0×Int×Unit)):Option (DT0×Int×Unit) :=
 zrl N i.1 i.2.1 i.2.2.1 i.2.2.2 (r ()) (K (.exit 0) (mkS [(6,.box TT1),(4,.box TT1)] 36 (i.1,i.2.1,())))
def z1ea (N:Nat):Hd (DT0×Int×Unit):=fun st K=>(unS SQ56 15 (restr [32,31,30,11,6] 0 st)).bind fun x=>iter (fun v r=>z1fv N ((fun x=>(x.1,x.2.1,x.2.2.2.1,x.2.2.2.2.1)) x) v r K) N ((fun x=>()) x)
def t1_84 (N:Nat):Tab (DT0×Int×Unit):=[]
theorem z1cb {N:Nat}{c:Ctx}(hb:Base Tryd.prog (E_84 N) c):z10 Tryd.prog c (zl ztu zw1) (z1ea N) :=
 z2t (s:=SQ56) (m:=15) (z1fv N) [32,31,30,11,6] N (fun x=>(x.1,x.2.1,x.2.2.2.1,x.2.2.2.2.1)) (fun x=>()) (fun i v=>(i.1,i.2.1,(),i.2.2.1,i.2.2.2,())) (fun _=>rfl) (zi hb N (t1_84 N) L_84 ztu TabOk.nil z1ai _ rfl) (fun i v r K=>by kernel_rfl)
def z10c (N:Nat)(notary:(List UInt8))(ticket:(List UInt8)):Option (DT0×Int×Unit) :=
 (z4t N notary ticket).bind fun y =>
 cond (y.2.2.1 != (0:Int))
 (some ((([]:List UInt8),(([]:List DT6),(([]:List UInt8),()))),(y.2.2.1,())))
 ((z4j N y.1 ticket).bind fun y1 =>
 z10a N (([]:List UInt8),(([]:List DT6),(([]:List UInt8),()))) (ticket,(([]:List DT6),(y1,()))) (0:Int) (0:Int)
 (some ((ticket,(([]:List DT6),(y1,()))),((0:Int),()))))
def t_84 (N:Nat):Tab (DT0×Int×Unit):=[(zw1,z1ea N)]
theorem z16d (N:Nat)(x:z1k SQ62):z3v (E_84 N) N (t_84 N) L_84 Tryd.f9 (mkS SQ62 0 x) (z1r (.tup [TT1,(.int .i64)]) 3)=z10c N x.1 x.2.1:=by kernel_rfl
def zx6 (N:Nat):List A->Res:=z14 SQ62 (fun x=>z10c N x.1 x.2.1) (z3r (.tup [TT1,(.int .i64)]) 3)
theorem z10b (N:Nat):Contract Tryd.prog glob 9 (zx6 N) :=
 Contract.of (E:=E_84 N) (H:=t_84 N) (L:=L_84) (N:=N) (body:=ztu) (K:=(z1r (.tup [TT1,(.int .i64)]) 3)) (z1hf N) Tryd.func9 (by kernel_rfl) (by decide) (fun _ hb=>(TabOk.cons (z1cb hb) TabOk.nil)) (fun x y h=>by rw[z16d];exact h) (zq (s:=(.tup [TT1,(.int .i64)])) (m:=3))
def zo8 (N:Nat):List A->Res:=znl SQ62 (fun x=>z10c N x.1 x.2.1) (z3r (.tup [TT1,(.int .i64)]) 3) (zo9 N)
theorem zrm (N:Nat):Contract Tryd.prog glob 9 (zo8 N):=Contract.alt (z10b N) (z10d N)
def ztt:Code:=(Tryd.f6.body).getD .skip
def L_85:List (List Nat×List Nat):=[([0],[0,1,2]),([0,0,1],[12,2,0]),([1,0,1],[2,0]),([0,0,1,0,1],[6]),([1,0,1,0,1],[6]),([0,1,1],[0,7]),([0,0,1,1,1],[8,0,7]),([0,1,0,1,1,1],[8,0,7]),([0,0,0,0,1,0,1,1,1],[17,0,8,7]),([1,0,0,0,1,0,1,1,1],[0,8,7]),([1,1,0,0,0,1,0,1,1,1],[]),([0,0,0,0,1,0,0,1,0,1,1,1],[26,7,0,8]),([1,0,0,0,1,0,0,1,0,1,1,1],[7,0,8]),([0,0,1,0,0,0,1,0,0,1,0,1,1,1],[6]),([1,0,1,0,0,0,1,0,0,1,0,1,1,1],[6]),([1,0,0,1,0,0,1,0,1,1,1],[8,0,7]),([0,1,0,0,1,0,1,1,1],[8,0,7]),([1,1,0,0,1,0,1,1,1],[8,0,7]),([1,0,1,1,1],[]),([0,1,1,1,1],[6]),([1,1,1,1,1],[6])]
def E_85 (N:Nat):Env:=z1c tys glob [] [] [] [] false [] [(70,z1z N),(81,zf N),(83,zd N),(52,z8 N)]
theorem z1he (N:Nat):EnvOk Tryd.prog (E_85 N):=zh mixed zz (FnsOk.nil) (ItsOk.cons (z2d N) (ItsOk.cons (zg N) (ItsOk.cons (ze N) (ItsOk.cons (za N) (ItsOk.nil)))))
def z67 (N:Nat)(l:(List (List UInt8)))(left:Int)(i:Int)(rec:Int->Int->Option Bool)(k0:Bool->Option Bool)(k1:Option Bool):Option Bool :=
 cond (decide (i<(((List.length l):Nat):Int)))
 (cond (inR i (List.length l))
 (cond (decide (left<(((List.length (List.getD l (Int.toNat i) ([]:List UInt8))):Nat):Int)))
 (k0 false)
 (cond (inR i (List.length l))
 (rec (IntKind.wrap IntKind.i64 (left - (((List.length (List.getD l (Int.toNat i) ([]:List UInt8))):Nat):Int))) (IntKind.wrap IntKind.i64 (i+(1:Int))))
 (none)))
 (none))
 (k1)
def z9a (N:Nat)(l:(List (List UInt8)))(left:Int)(i:Int)(k0:Bool->Option Bool)(k1:Option Bool):Option Bool :=
 iter (fun (v:(Int×Int)) r=>z67 N l v.1 v.2 (fun left i=>(r (left,i))) k0 k1) N (left,i)
def z1fu (N:Nat)(i:(List (List UInt8)))(v:(Int×Int))(r:(Int×Int)->Option Bool)(K:Ex->List A->Option Bool):Option Bool :=
 z67 N i v.1 v.2 (fun left i=>(r (left,i))) (fun a0=>(K .ret (mkS [(6,.v .bool)] 27 (a0,())))) (K (.exit 0) (mkS [] 34 ()))
def z1e9 (N:Nat):Hd Bool:=fun st K=>(unS [(0,.v (.sl .str)),(6,.v (.int .i64)),(0,.v (.int .i64))] 25 (restr [8,0,7] 0 st)).bind fun x=>iter (fun v r=>z1fu N ((fun x=>x.1) x) v r K) N ((fun x=>(x.2.1,x.2.2.1)) x)
def t1_85 (N:Nat):Tab Bool:=[]
theorem z1ca {N:Nat}{c:Ctx}(hb:Base Tryd.prog (E_85 N) c):z10 Tryd.prog c (zl ztt [0,1,0,1,1,1]) (z1e9 N) :=
 z2t (s:=[(0,.v (.sl .str)),(6,.v (.int .i64)),(0,.v (.int .i64))]) (m:=25) (z1fu N) [8,0,7] N (fun x=>x.1) (fun x=>(x.2.1,x.2.2.1)) (fun i v=>(i,v.1,v.2,())) (fun _=>rfl) (zi hb N (t1_85 N) L_85 ztt TabOk.nil [0,0,1,0,1,1,1] _ rfl) (fun i v r K=>by kernel_rfl)
def z3a (N:Nat)(l:(List (List UInt8)))(many:Int)(most:Int):Option Bool :=
 cond (decide (many<(((List.length l):Nat):Int)))
 (some false)
 (z9a N l most (0:Int)
 (fun x6=>some x6)
 (some true))
def t_85 (N:Nat):Tab Bool:=[([0,1,0,1,1,1],z1e9 N)]
theorem z16c (N:Nat)(x:z1k SQ49):z3v (E_85 N) N (t_85 N) L_85 Tryd.f6 (mkS SQ49 0 x) (z1r (.v .bool) 3)=z3a N x.1 x.2.1 x.2.2.1:=by kernel_rfl
def z8e (N:Nat):List A->Res:=z14 SQ49 (fun x=>z3a N x.1 x.2.1 x.2.2.1) (z3r (.v .bool) 3)
theorem zfy (N:Nat):Contract Tryd.prog glob 6 (z8e N) :=
 Contract.of (E:=E_85 N) (H:=t_85 N) (L:=L_85) (N:=N) (body:=ztt) (K:=(z1r (.v .bool) 3)) (z1he N) Tryd.func6 (by kernel_rfl) (by decide) (fun _ hb=>(TabOk.cons (z1ca hb) TabOk.nil)) (fun x y h=>by rw[z16c];exact h) (zq (s:=(.v .bool)) (m:=3))
def zts:Code:=(Tryd.f13.body).getD .skip
def L_86:List (List Nat×List Nat):=[([0],[0,1]),([0,0,1],[10,0,1]),([1,0,1],[0,1]),([0,0,1,0,1],[4]),([1,0,1,0,1],[4]),([0,0,1,1],[5,0,1]),([0,1,0,1,1],[5,0,1]),([0,0,0,0,1,0,1,1],[14,0,5,1]),([1,0,0,0,1,0,1,1],[0,5,1]),([1,1,0,0,0,1,0,1,1],[]),([0,0,0,1,0,0,1,0,1,1],[25,5,0,1]),([1,0,0,1,0,0,1,0,1,1],[5,0,1]),([0,0,1,0,0,1,0,0,1,0,1,1],[4]),([1,0,1,0,0,1,0,0,1,0,1,1],[4]),(z14n,[5,0,1]),([1,1,0,0,1,0,1,1],[5,0,1]),([1,0,1,1],[]),([0,1,1,1],[4]),([1,1,1,1],[4])]
def E_86 (N:Nat):Env:=z1c tys glob [] [] [] [] false [] [(70,z1z N),(81,zf N),(83,zd N),(52,z8 N)]
theorem z1hd (N:Nat):EnvOk Tryd.prog (E_86 N):=zh mixed zz (FnsOk.nil) (ItsOk.cons (z2d N) (ItsOk.cons (zg N) (ItsOk.cons (ze N) (ItsOk.cons (za N) (ItsOk.nil)))))
def z44 (N:Nat)(a:(List (List UInt8)))(b:(List (List UInt8)))(i:Int)(rec:Int->Option Bool)(k0:Bool->Option Bool)(k1:Option Bool):Option Bool :=
 cond (decide (i<(((List.length a):Nat):Int)))
 (cond (inR i (List.length a))
 (cond (inR i (List.length b))
 (cond (!((List.getD a (Int.toNat i) ([]:List UInt8)) == (List.getD b (Int.toNat i) ([]:List UInt8))))
 (k0 false)
 (rec (IntKind.wrap IntKind.i64 (i+(1:Int)))))
 (none))
 (none))
 (k1)
def z6p (N:Nat)(a:(List (List UInt8)))(b:(List (List UInt8)))(i:Int)(k0:Bool->Option Bool)(k1:Option Bool):Option Bool :=
 iter (fun (v:Int) r=>z44 N a b v (fun i=>(r i)) k0 k1) N i
def z1ft (N:Nat)(i:((List (List UInt8))×(List (List UInt8))))(v:Int)(r:Int->Option Bool)(K:Ex->List A->Option Bool):Option Bool :=
 z44 N i.1 i.2 v (fun i=>(r i)) (fun a0=>(K .ret (mkS [(4,.v .bool)] 21 (a0,())))) (K (.exit 0) (mkS [] 26 ()))
def z1e8 (N:Nat):Hd Bool:=fun st K=>(unS [(0,.v (.sl .str)),(0,.v (.sl .str)),(3,.v (.int .i64))] 20 (restr [5,0,1] 0 st)).bind fun x=>iter (fun v r=>z1ft N ((fun x=>(x.1,x.2.1)) x) v r K) N ((fun x=>x.2.2.1) x)
def t1_86 (N:Nat):Tab Bool:=[]
theorem z1c9 {N:Nat}{c:Ctx}(hb:Base Tryd.prog (E_86 N) c):z10 Tryd.prog c (zl zts [0,1,0,1,1]) (z1e8 N) :=
 z2t (s:=[(0,.v (.sl .str)),(0,.v (.sl .str)),(3,.v (.int .i64))]) (m:=20) (z1ft N) [5,0,1] N (fun x=>(x.1,x.2.1)) (fun x=>x.2.2.1) (fun i v=>(i.1,i.2,v,())) (fun _=>rfl) (zi hb N (t1_86 N) L_86 zts TabOk.nil [0,0,1,0,1,1] _ rfl) (fun i v r K=>by kernel_rfl)
def z2j (N:Nat)(a:(List (List UInt8)))(b:(List (List UInt8))):Option Bool :=
 cond ((((List.length a):Nat):Int) != (((List.length b):Nat):Int))
 (some false)
 (z6p N a b (0:Int)
 (fun x4=>some x4)
 (some true))
def t_86 (N:Nat):Tab Bool:=[([0,1,0,1,1],z1e8 N)]
theorem z16b (N:Nat)(x:z1k [(0,.v (.sl .str)),(0,.v (.sl .str))]):z3v (E_86 N) N (t_86 N) L_86 Tryd.f13 (mkS [(0,.v (.sl .str)),(0,.v (.sl .str))] 0 x) (z1r (.v .bool) 2)=z2j N x.1 x.2.1:=by kernel_rfl
def z6e (N:Nat):List A->Res:=z14 [(0,.v (.sl .str)),(0,.v (.sl .str))] (fun x=>z2j N x.1 x.2.1) (z3r (.v .bool) 2)
theorem zby (N:Nat):Contract Tryd.prog glob 13 (z6e N) :=
 Contract.of (E:=E_86 N) (H:=t_86 N) (L:=L_86) (N:=N) (body:=zts) (K:=(z1r (.v .bool) 2)) (z1hd N) Tryd.func13 (by kernel_rfl) (by decide) (fun _ hb=>(TabOk.cons (z1c9 hb) TabOk.nil)) (fun x y h=>by rw[z16b];exact h) (zq (s:=(.v .bool)) (m:=2))
def z18q:Code:=(Tryd.f4.body).getD .skip
def L_87:List (List Nat×List Nat):=[([0],[]),([0,1],[1]),([0,1,1],[1,4,3]),([0,1,1,1],[1,4,3]),([0,1,1,1,1],[4,3,6]),([0,1,1,1,1,1],[0]),([1,1,1,1,1,1],[0])]
def E_87 (N:Nat):Env:=z1c tys glob [(7,z5x N),(11,z79 N),(5,z4i N)] [(3,.str),(5,.str)] [] [] false [] [(70,z1z N),(81,zf N),(83,zd N),(52,z8 N)]
theorem z1hc (N:Nat):EnvOk Tryd.prog (E_87 N):=zh mixed zz (FnsOk.cons (z8n N) (FnsOk.cons (zcr N) (FnsOk.cons (z73 N) (FnsOk.nil)))) (ItsOk.cons (z2d N) (ItsOk.cons (zg N) (ItsOk.cons (ze N) (ItsOk.cons (za N) (ItsOk.nil)))))
def z15 (N:Nat):Option Bool :=
 (z4j N ([(107:UInt8)]:List UInt8) ([(97:UInt8)]:List UInt8)).bind fun y =>
 (z59 N (([(97:UInt8)]:List UInt8),(([]:List DT6),(y,()))) ([(98:UInt8),(101:UInt8),(102:UInt8),(111:UInt8),(114:UInt8),(101:UInt8),(32:UInt8),(57:UInt8)]:List UInt8)).bind fun y1 =>
 (z21 N ([(107:UInt8)]:List UInt8) (y1.1,(([]:List DT0),()))).bind fun y2 =>
 cond (decide (((0:Int)<=(if ((((List.length y1.1.2.2.1):Nat):Int)<(1:Int)) then (((List.length y1.1.2.2.1):Nat):Int) else (1:Int)))/\((if ((((List.length y1.1.2.2.1):Nat):Int)<(1:Int)) then (((List.length y1.1.2.2.1):Nat):Int) else (1:Int))<=(((List.length y1.1.2.2.1):Nat):Int))))
 (cond (decide ((1+(List.length (cut y1.1.2.2.1 (Int.toNat (if ((((List.length y1.1.2.2.1):Nat):Int)<(1:Int)) then (((List.length y1.1.2.2.1):Nat):Int) else (1:Int))) (List.length y1.1.2.2.1))))<=9223372036854775807))
 ((z21 N ([(107:UInt8)]:List UInt8) ((y1.1.1,(y1.1.2.1,((([(120:UInt8)]:List UInt8)++(cut y1.1.2.2.1 (Int.toNat (if ((((List.length y1.1.2.2.1):Nat):Int)<(1:Int)) then (((List.length y1.1.2.2.1):Nat):Int) else (1:Int))) (List.length y1.1.2.2.1))),y1.1.2.2.2))),(([]:List DT0),()))).bind fun y3 =>
 cond (y2.2.1 == (0:Int))
 (cond ((((List.length y2.1):Nat):Int) == (1:Int))
 (cond (inR (0:Int) (List.length y2.1))
 (cond ((List.getD y2.1 0 ([]:List UInt8)) == ([(98:UInt8),(101:UInt8),(102:UInt8),(111:UInt8),(114:UInt8),(101:UInt8),(32:UInt8),(57:UInt8)]:List UInt8))
 (some (y3.2.1 == (8:Int)))
 (some false))
 (none))
 (some false))
 (some false))
 (none))
 (none)
def t_87 (N:Nat):Tab Bool:=[]
theorem z16a (N:Nat)(x:z1k []):z3v (E_87 N) N (t_87 N) L_87 Tryd.f4 (mkS [] 0 x) (z1r (.v .bool) 0)=z15 N:=by kernel_rfl
def z7x (N:Nat):List A->Res:=z14 [] (fun x=>z15 N) (z3r (.v .bool) 0)
theorem zf0 (N:Nat):Contract Tryd.prog glob 4 (z7x N) :=
 Contract.of (E:=E_87 N) (H:=t_87 N) (L:=L_87) (N:=N) (body:=z18q) (K:=(z1r (.v .bool) 0)) (z1hc N) Tryd.func4 (by kernel_rfl) (by decide) (fun _ hb=>TabOk.nil) (fun x y h=>by rw[z16a];exact h) (zq (s:=(.v .bool)) (m:=0))
end
end Go.Proofs.YtlhdohlpilippaaDoorLg
set_option linter.all false
namespace Go.Lift
noncomputable section
open Go
variable {P:Program} {E:Env} {c:Ctx}
def z122:List Nat->List A->List A
 | [],st=>st
 | r::l,st=>z122 l (z97 st r)
def z121:List Nat->List A->Bool
 | [],_=>true
 | r::l,st=>(match zxn (st.getD r .dead) with
   | some _=>z121 l (z97 st r)
   | none=>false)
def zur (st:List A) (R:List Nat):List Nat->Bool
 | []=>true
 | i::l=>z1i (match st.getD i .dead with
   | .v _ _=>true
   | .row _ _=>R.contains i
   | .box _ _=>R.contains i
   | _=>false) (zur st R l)
def dAt:List (Nat×Dat)->Nat->Option Dat
 | [],_=>none
 | (j,d)::l,i=>match Nat.beq j i with
   | true=>some d
   | false=>dAt l i
def merA (keep:List Nat) (ds:List (Nat×Dat)) (i:Nat) (x:A):A:=match keep.contains i with
 | true=>x
 | false=>(match dAt ds i with
   | some d=>.v d.1 d.2
   | none=>.dead)
def mer (keep:List Nat)(ds:List (Nat×Dat)):Nat->List A->List A
 | _,[]=>[]
 | i,x::l=>merA keep ds i x::mer keep ds (i+1) l
theorem zi6 (keep:List Nat)(ds:List (Nat×Dat)):∀ (i:Nat) (l:List A),(mer keep ds i l).length=l.length
 | _,[]=>rfl
 | i,_::l=>by simp[mer,zi6 keep ds (i+1) l]
theorem zzb (keep:List Nat)(ds:List (Nat×Dat)):∀ (i:Nat) (l:List A) (k:Nat) (y:A),(mer keep ds i l)[k]?=some y->∃ x,l[k]?=some x/\y=merA keep ds (i+k) x
 | _,[],k,y,h=>by simp[mer] at h
 | i,x::l,0,y,h=>by simp[mer] at h;exact⟨x,rfl,h.symm⟩
 | i,x::l,k+1,y,h=>by
   simp only[mer,List.getElem?_cons_succ] at h;obtain⟨z,h1,h2⟩:=zzb keep ds (i+1) l k y h;exact⟨z,h1,by rw[h2];congr 1;omega⟩
theorem zgi {st:List A}{R:List Nat}:∀ {l:List Nat},zur st R l=true->∀ i∈l,(∃ t x,st.getD i .dead=.v t x)\/(((∃ t x,st.getD i .dead=.row t x)\/(∃ t x,st.getD i .dead=.box t x))/\i∈R)
 | [],_,i,hi=>by cases hi
 | j :: l,h,i,hi=>by
   simp only[zur] at h;obtain⟨h1,h2⟩:=z7 h;rcases List.mem_cons.1 hi with rfl|hi
   . split at h1
     . exact .inl ⟨_,_,by assumption⟩
     . exact .inr ⟨.inl ⟨_,_,by assumption⟩,by simpa using h1⟩
     . exact .inr ⟨.inr ⟨_,_,by assumption⟩,by simpa using h1⟩
     . cases h1
   . exact zgi h2 i hi
theorem zv4 {a:Act} {w:World}:∀ (R:List Nat) {st:List A} {S:Hp} {ob:Nat->List Nat},SimD c st a w S ob->z121 R st=true →
 ∃ S1 ob1,Sub S S1/\SimD c (z122 R st) a w S1 ob1/\(∀ i∈R,ob1 i=[])/\∀ i b,b∈ob1 i->b∈ob i
 | [],st,S,ob,h,_=>⟨S,ob,Sub.refl _,h,fun i hi=>(by cases hi),fun _ _ hb=>hb⟩
 | r :: R, st,S,ob,h,hk=>by
   simp only[z121] at hk;split at hk
   . rename_i y hy;have hne:st.getD r .dead ≠ .dead:=by intro e;rw[e] at hy;simp[zxn] at hy
     obtain⟨S',t,z,hS,e,hv,hs⟩:=h.retire (zm rfl hne) hy;obtain⟨S1,ob1,hS1,hs1,h1,h2⟩:=zv4 R hs hk;refine⟨S1,ob1,hS.trans hS1,hs1,?_,?_⟩
     . intro i hi;rcases List.mem_cons.1 hi with rfl|hi
       . cases hob:ob1 i with
         | nil=>rfl
         | cons b l =>
           have:=h2 i b (by rw[hob];simp);rw[if_pos rfl] at this;cases this
       . exact h1 i hi
     . intro i b hb;have:=h2 i b hb;split at this
       . cases this
       . exact this
   . cases hk
def TOk {β:Type}(c:Ctx)(T:(Exit->Act->World->Prop)->Act->World->Prop)(f:Hd β):Prop :=
 ∀ (st:List A) (K:Ex->List A->Option β) (y:β),f st K=some y->∃ e st',K e st'=some y ∧
 ∀ (Q:Exit->Act->World->Prop) (a:Act) (w:World),Sim c st a w->(∀ a' w',Sim c st' a' w'->Q e.exit' a' w')->T Q a w
theorem zys {β γ:Type} {E:Env} {T:(Exit->Act->World->Prop)->Act->World->Prop} {f:Hd γ} (R keep:List Nat) (dec:Nat->Ex->List A->Option γ) (enc:γ->Ex×List Nat×List (Nat×Dat)) (hE:EnvOk P E) (hlent:E.lent=[])
 (hdec:∀ n e st' g,dec n e st'=some g->e=(enc g).1/\st'.length=n/\(∀ i∈(enc g).2.1,i∈keep)/\∀ i d,dAt (enc g).2.2 i=some d->st'[i]?=some (.v d.1 d.2)/\zp8 d.1=true)
 (hf:∀ c',Base P { E with lent:=keep } c'->TOk c' T f) {c:Ctx} (hb:Base P E c) :
 TOk (β:=β) c T (fun st K=>match z1i (z121 R st) (zur st R keep) with
  | true=>(f (z122 R st) (dec st.length)).bind fun g=>K (enc g).1 (mer (enc g).2.1 (enc g).2.2 0 st)
  | false=>none):=by
 intro st K y hy;dsimp only at hy;split at hy
 case h_2=>cases hy
 rename_i hck;obtain⟨hR,hst⟩:=z7 hck;cases hfy:f (z122 R st) (dec st.length) with
 | none=>rw[hfy] at hy;cases hy
 | some q =>
   rw[hfy,Option.bind_some] at hy;refine⟨(enc q).1,_,hy,?_⟩;rintro Q a w ⟨S,ob,hs⟩ hq;have hcl:c.lent=[]:=by have:=hb.lent;rw[hlent] at this;simpa using this.symm
   obtain⟨S1,ob1,hS1,hs1,hob1,hobs⟩:=zv4 R hs hR;obtain⟨Ds,hDe,hDn,hD⟩:=hs1.defers
   let c':Ctx:={ w0:=w,S0:=S1,B0:=fun b=>(∃ i,b∈ob1 i)\/b∈Ds,lent:=keep.map fun i=>(i,tv a i) }
   have hb':Base P { E with lent:=keep } c':=⟨⟨hE.ty,hE.fn,hE.it,hE.mixed⟩,(hb.glob.mono hs1.mono),by simp[c',List.map_map,Function.comp_def]⟩
   have hs':SimD c' (z122 R st) a w S1 ob1:=by
    refine⟨⟨Ds,hDe,hDn,fun D hm=>⟨(hD D hm).1,(hD D hm).2.1,(hD D hm).2.2.1,.inl (.inr hm)⟩⟩,hs1.size,hs1.rel,hs1.refs,hs1.out,hs1.inj,hs1.nd,hs1.hid,hs1.sub,Sub.refl _,fun i b hbi=>.inl (.inl ⟨i,hbi⟩),fun b hbS=>.inl hbS,?_,WF.refl _ _⟩;intro p hp;simp only[c',List.mem_map] at hp;obtain⟨i,_,rfl⟩:=hp;rfl
   obtain⟨e,st',hK,hw⟩:=hf c' hb' _ _ _ hfy;obtain⟨rfl,hlen,hkp,hfl⟩:=hdec _ _ _ _ hK;have stk:∀ i,i∈(enc q).2.1->i∈keep:=hkp;generalize (enc q).2.1=kp at *;generalize (enc q).2.2=ds at *;generalize (enc q).1=e at *
   . 
    refine hw Q a w ⟨S1,ob1,hs'⟩ ?_;rintro a' w' ⟨S2,ob2,hs2⟩;refine hq a' w' ⟨S,fun i=>if i∈kp then ob i else [],?_⟩;have hkeepb:∀ i,i∈kp->∀ b,b∈ob i->i∈R:=by
     intro i hi b hbi;rcases zgi hst i (stk i hi) with⟨t,x,e⟩|⟨_,h⟩
     . have:=hs.rel i _ (zm e (by simp));rw[this.2] at hbi;cases hbi
     . exact h
    have hBn:∀ i,i∈kp->∀ b,b∈ob i->¬ c'.B0 b/\b<w.heap.size:=by
     intro i hi b hbi;have hiR:=hkeepb i hi b hbi;obtain⟨x,hx⟩:∃ x,st[i]?=some x:=by
      rcases Nat.lt_or_ge i st.length with h|h
      . exact⟨st[i],List.getElem?_eq_getElem h⟩
      . rw[hs.out i h] at hbi;cases hbi
     obtain⟨o,ho,hnd⟩:=(hs.rel i x hx).obj b hbi;have hlt:b<w.heap.size:=by
      rcases Nat.lt_or_ge b w.heap.size with h|h
      . exact h
      . simp[hp,Array.getElem?_eq_none h] at ho
     refine⟨?_,hlt⟩;rintro (⟨j,hj⟩|hj)
     . have:=hobs j b hj;have hji:=hs.inj j i b this hbi;subst hji;rw[hob1 j hiR] at hj;cases hj
     . have h1:=(hD b hj).1;rw[ho] at h1;cases h1;exact hnd _ rfl
    have hsame:∀ i,i∈kp->∀ b,b∈ob i->hp w' b=hp w b:=fun i hi b hbi=>hs2.frame.same b (hBn i hi b hbi).2 (hBn i hi b hbi).1
    have htv:∀ i,i∈kp->tv a' i=tv a i:=fun i hi=>hs2.lent (i,tv a i) (List.mem_map.2 ⟨i,stk i hi,rfl⟩)
    have hS2:Sub S S2:=hS1.trans hs2.mono;refine⟨?_,?_,?_,?_,?_,?_,?_,?_,hS2.trans hs2.sub,hs.mono,?_,hs.newS,(by rw[hcl];intro p hp;cases hp),hs.frame.trans hs2.frame ?_⟩
    . obtain⟨Ds2,e1,e2,e3⟩:=hs2.defers;refine⟨Ds2,e1,e2,fun D hm=>?_⟩;obtain⟨h1,h2,h3,h4⟩:=e3 D hm;refine⟨h1,?_,fun i hi=>?_,?_⟩
      . cases h:S D with
        | none=>rfl
        | some o=>rw[hS2 D o h] at h2;cases h2
      . dsimp only at hi;split at hi
        . rename_i hik;have:=hBn i hik D hi;rcases h4 with h4|h4
          . exact this.1 h4
          . exact absurd this.2 (Nat.not_lt.2 h4)
        . cases hi
      . rcases h4 with (⟨i,hi⟩|hDm)|h4
        . exact hs.fresh i D (hobs i D hi)
        . exact (hD D hDm).2.2.2
        . exact .inr (Nat.le_trans hs.frame.size h4)
    . rw[zi6,hs2.size,hlen]
    . intro i x hx;obtain⟨z,hz,rfl⟩:=zzb _ _ _ _ _ _ hx;rw[Nat.zero_add];unfold merA;cases hc:kp.contains i with
      | true =>
        have hik:i∈kp:=by simpa using hc
        simp only[if_pos hik,htv i hik];have hzr:=hs.rel i z hz;have href:z.refs=[]/\z.cell=none:=by
         have hzd:st.getD i .dead=z:=by simp[List.getD,hz]
         rcases zgi hst i (stk i hik) with⟨t,x,e⟩|⟨⟨t,x,e⟩|⟨t,x,e⟩,_⟩<;>(rw[hzd] at e;subst e;exact⟨rfl,rfl⟩)
        exact hzr.mono (Sub.refl _) (hsame i hik) (fun r hr=>by rw[href.1] at hr;cases hr) (fun r hr=>by rw[href.2] at hr;cases hr)
      | false =>
        have hik:i∉kp:=by simpa using hc
        simp only[if_neg hik];cases hd:dAt ds i with
        | none=>exact rfl
        | some d =>
          obtain⟨h1,h2⟩:=hfl i d hd;have:=hs2.rel i _ h1;exact⟨zte h2 this.1,rfl⟩
    . intro i x r hx hr;obtain⟨z,hz,rfl⟩:=zzb _ _ _ _ _ _ hx;exfalso;rw[Nat.zero_add] at hr;unfold merA at hr;cases hc:kp.contains i with
      | true =>
        rw[hc] at hr;have hik:i∈kp:=by simpa using hc
        have hzd:st.getD i .dead=z:=by simp[List.getD,hz]
        rcases zgi hst i (stk i hik) with⟨t,x,e⟩|⟨⟨t,x,e⟩|⟨t,x,e⟩,_⟩<;>(rw[hzd] at e;subst e;simp[A.refs] at hr)
      | false =>
        rw[hc] at hr;dsimp only at hr;split at hr<;>simp[A.refs] at hr
    . intro i hi;rw[zi6] at hi;split
      . exact hs.out i hi
      . rfl
    . intro i j b hi hj;split at hi
      . split at hj
        . exact hs.inj i j b hi hj
        . cases hj
      . cases hi
    . intro i;split
      . exact hs.nd i
      . simp
    . intro i b hi;split at hi
      . exact hs.hid i b hi
      . cases hi
    . intro i b hi;split at hi
      . exact hs.fresh i b hi
      . cases hi
    . rintro b (⟨i,hi⟩|hbD)
      . exact hs.fresh i b (hobs i b hi)
      . exact (hD b hbD).2.2.2
theorem seqT {β:Type}{c:Ctx}{k1 k2:Code}{f1 f2:Hd β}(h1:z10 P c k1 f1)(h2:z10 P c k2 f2) :
 TOk c (fun Q a w=>k1.wp P (Exit.then (k2.wp P Q) Q) a w) (fun st K=>f1 st fun e st1=>match e with
  | .normal=>f2 st1 K
  | e=>K e st1):=by
 intro st K y hy;obtain⟨e,st1,hK,hw⟩:=h1 st _ y hy;cases e with
 | normal =>
   obtain⟨e2,st2,hK2,hw2⟩:=h2 st1 K y hK;exact⟨e2,st2,hK2,fun Q a w hs hq=>hw _ a w hs fun a' w' hs'=>hw2 Q a' w' hs' hq⟩
 | exit id=>exact⟨.exit id,st1,hK,fun Q a w hs hq=>hw _ a w hs fun a' w' hs'=>hq a' w' hs'⟩
 | ret=>exact⟨.ret,st1,hK,fun Q a w hs hq=>hw _ a w hs fun a' w' hs'=>hq a' w' hs'⟩
theorem z15t {β:Type}{c:Ctx}{k1 k2 k3:Code}{f1 f2:Hd β}(h1:TOk c (fun Q a w=>k1.wp P (Exit.then (k2.wp P Q) Q) a w) f1)(h2:z10 P c k3 f2) :
 z10 P c (.seq k1 (.seq k2 k3)) (fun st K=>f1 st fun e st1=>match e with
  | .normal=>f2 st1 K
  | e=>K e st1):=by
 have key:∀ (Q:Exit->Act->World->Prop) (a:Act) (w:World),k1.wp P (Exit.then (k2.wp P (Exit.then (k3.wp P Q) Q)) (Exit.then (k3.wp P Q) Q)) a w->(Code.seq k1 (.seq k2 k3)).wp P Q a w:=by
  intro Q a w h;refine wp_seq (wp_mono h ?_);intro e a w hq;cases e with
  | normal=>exact wp_seq hq
  | _=>exact hq
 intro st K y hy;obtain⟨e,st1,hK,hw⟩:=h1 st _ y hy;cases e with
 | normal =>
   obtain⟨e2,st2,hK2,hw2⟩:=h2 st1 K y hK;exact⟨e2,st2,hK2,fun Q a w hs hq=>key Q a w (hw _ a w hs fun a' w' hs'=>hw2 Q a' w' hs' hq)⟩
 | exit id=>exact⟨.exit id,st1,hK,fun Q a w hs hq=>key Q a w (hw _ a w hs fun a' w' hs'=>hq a' w' hs')⟩
 | ret=>exact⟨.ret,st1,hK,fun Q a w hs hq=>key Q a w (hw _ a w hs fun a' w' hs'=>hq a' w' hs')⟩
theorem z15u {β:Type}{c:Ctx}{k1 k2:Code}{f1 f2:Hd β}(h1:TOk c (fun Q a w=>k1.wp P Q a w) f1)(h2:z10 P c k2 f2) :
 z10 P c (.seq k1 k2) (fun st K=>f1 st fun e st1=>match e with
  | .normal=>f2 st1 K
  | e=>K e st1):=by
 intro st K y hy;obtain⟨e,st1,hK,hw⟩:=h1 st _ y hy;cases e with
 | normal =>
   obtain⟨e2,st2,hK2,hw2⟩:=h2 st1 K y hK;exact⟨e2,st2,hK2,fun Q a w hs hq=>wp_seq (hw _ a w hs fun a' w' hs'=>hw2 Q a' w' hs' hq)⟩
 | exit id=>exact⟨.exit id,st1,hK,fun Q a w hs hq=>wp_seq (hw _ a w hs fun a' w' hs'=>hq a' w' hs')⟩
 | ret=>exact⟨.ret,st1,hK,fun Q a w hs hq=>wp_seq (hw _ a w hs fun a' w' hs'=>hq a' w' hs')⟩
end
end Go.Lift
set_option linter.all false
set_option maxRecDepth 100000
namespace Go.Proofs.YtlhdohlpilippaaDoorLg
noncomputable section
open Go Go.Lift
def z1l:Code:=(Tryd.f3.body).getD .skip
def zpv:List (List Nat×List Nat):=[([0],[0,1]),([0,0,1],[29,0,1]),([1,0,1],[0,1]),([0,0,1,0,1],[4]),([1,0,1,0,1],[4]),([0,1,1],[1,5,0]),([0,1,1,1],[1,5,6,0]),([0,1,1,1,1],[1,5,7,6,8,0]),([0,0,1,1,1,1,1],z19u),(z1aj,z19u),([0,0,0,0,1,0,1,1,1,1,1],[37,1,9,5,7,6,8,0]),([1,0,0,0,1,0,1,1,1,1,1],z10z),([1,1,0,0,0,1,0,1,1,1,1,1],[0,5,6,7,8]),(PQ59,[55,1,9,5,7,6,8,0]),([1,0,0,0,1,0,0,1,0,1,1,1,1,1],z10z),([0,0,1,0,0,0,1,0,0,1,0,1,1,1,1,1],[4]),([1,0,1,0,0,0,1,0,0,1,0,1,1,1,1,1],[4]),([0,1,0,0,1,0,0,1,0,1,1,1,1,1],z10z),([0,0,1,1,0,0,1,0,0,1,0,1,1,1,1,1],[62,5,1,9,7,6,8,0]),([1,0,1,1,0,0,1,0,0,1,0,1,1,1,1,1],[10,9,1,5,7,6,8,0]),([0,1,1,0,1,1,0,0,1,0,0,1,0,1,1,1,1,1],[11,1,9,5,6,8,7,0]),([0,1,1,1,0,1,1,0,0,1,0,0,1,0,1,1,1,1,1],[12,1,9,13,5,11,6,8,7,0]),([0,1,1,1,1,0,1,1,0,0,1,0,0,1,0,1,1,1,1,1],z1h9),(PQ20,[112,5,12,11,6,14,8,1,9,7,0]),([1,0,1,1,1,1,1,0,1,1,0,0,1,0,0,1,0,1,1,1,1,1],[5,12,11,6,14,8,1,9,7,0]),([0,0,1,0,1,1,1,1,1,0,1,1,0,0,1,0,0,1,0,1,1,1,1,1],[4]),([1,0,1,0,1,1,1,1,1,0,1,1,0,0,1,0,0,1,0,1,1,1,1,1],[4]),([0,1,1,1,1,1,1,0,1,1,0,0,1,0,0,1,0,1,1,1,1,1],[6,14,8,1,9,10,5,7,0]),([0,1,1,1,1,1,1,1,0,1,1,0,0,1,0,0,1,0,1,1,1,1,1],[8,1,9,10,5,7,6,0]),([1,1,1,1,1,1,1,1,0,1,1,0,0,1,0,0,1,0,1,1,1,1,1],[10,9,1,5,7,6,8,0]),([0,0,1,0,1,1,0,0,1,0,0,1,0,1,1,1,1,1],[7,1,9,10,5,6,8,0]),([1,0,1,0,1,1,0,0,1,0,0,1,0,1,1,1,1,1],[10,9,1,5,7,6,8,0]),([0,1,1,1,0,0,1,0,0,1,0,1,1,1,1,1],[132,9,1,5,7,6,8,0]),([1,1,1,1,0,0,1,0,0,1,0,1,1,1,1,1],z19u),([0,0,1,1,1,1,0,0,1,0,0,1,0,1,1,1,1,1],[4]),([1,0,1,1,1,1,0,0,1,0,0,1,0,1,1,1,1,1],[4]),(z1h8,z19u),([1,1,0,0,1,0,1,1,1,1,1],z19u),([1,0,1,1,1,1,1],[0,5,6,7,8]),(z13k,[17,16,7,8,6,0,5]),([0,0,1,1,1,1,1,1,1],[150,6,0,5]),([1,0,1,1,1,1,1,1,1],[6,0,5]),([0,0,1,0,1,1,1,1,1,1,1],[4]),([1,0,1,0,1,1,1,1,1,1,1],[4]),([0,0,1,1,1,1,1,1,1,1],[153,0,5,6]),([1,0,1,1,1,1,1,1,1,1],[0,5,6]),([0,0,1,0,1,1,1,1,1,1,1,1],[4]),([1,0,1,0,1,1,1,1,1,1,1,1],[4]),(z1an,[0,5,6,19]),([0,1,1,1,1,1,1,1,1,1,1],[19,21]),([0,1,1,1,1,1,1,1,1,1,1,1],[4]),([1,1,1,1,1,1,1,1,1,1,1,1],[4])]
def zs6 (N:Nat):Env:=z1c tys glob [(4,z7x N),(13,z6e N),(6,z8e N),(9,zo8 N),(8,zbb N),(10,zd3 N),(7,z5x N),(12,zm9 N),(11,z79 N),(5,z4i N)] [(7,.str),(6,TT1),(8,.str),(16,.str),(18,.str),(20,.str)] [] [] false [] [(70,z1z N),(81,zf N),(83,zd N),(52,z8 N)]
theorem z112 (N:Nat):EnvOk Tryd.prog (zs6 N):=zh mixed zz (FnsOk.cons (zf0 N) (FnsOk.cons (zby N) (FnsOk.cons (zfy N) (FnsOk.cons (zrm N) (FnsOk.cons (zjy N) (FnsOk.cons (zlx N) (FnsOk.cons (z8n N) (FnsOk.cons (zxd N) (FnsOk.cons (zcr N) (FnsOk.cons (z73 N) (FnsOk.nil))))))))))) (ItsOk.cons (z2d N) (ItsOk.cons (zg N) (ItsOk.cons (ze N) (ItsOk.cons (za N) (ItsOk.nil)))))
def z33 (N:Nat)(key:(List UInt8))(l:zxt)(k0:Bool->Option Bool):Option Bool :=
 cond (decide ((100:Int)<(((List.length key):Nat):Int)))
 (k0 true)
 (k0 (decide ((8:Int)<(((List.length l):Nat):Int))))
def z1fh (N:Nat)(x:z1k z114)(K:Ex->List A->Option Bool):Option Bool :=
 z33 N x.1 x.2.1 (fun a2=>(K .normal (mkS [(0,.v .str),(0,.v (.sl TT7)),(27,.v .bool)] 160 (x.1,x.2.1,a2,()))))
def z1dw (N:Nat):Hd Bool:=fun st K=>(unS z114 188 (restr [0,1] 0 st)).bind fun x=>z1fh N x K
def t2_88 (N:Nat):Tab Bool:=[]
theorem z1bx {N:Nat}{c:Ctx}(hb:Base Tryd.prog (zs6 N) c):z10 Tryd.prog c (zl z1l [0,0,1]) (z1dw N) :=
 z1h (s:=z114) (m:=188) (g:=z1fh N) [0,1] (zi hb N (t2_88 N) zpv z1l TabOk.nil [0,0,1] _ rfl) (fun x K=>by kernel_rfl)
def z34 (N:Nat)(key:(List UInt8))(l:zxt)(k0:Bool->Option Bool)(k1:Option Bool):Option Bool :=
 z33 N key l
 (fun x29=>cond x29
 ((z15 N).bind fun y =>
 k0 y)
 (k1))
def z1fs (N:Nat)(x:z1k z114)(K:Ex->List A->Option Bool):Option Bool :=
 z34 N x.1 x.2.1 (fun a0=>(K .ret (mkS [(4,.v .bool)] 185 (a0,())))) (K .normal (mkS z114 188 (x.1,x.2.1,())))
def z1e7 (N:Nat):Hd Bool:=fun st K=>(unS z114 188 (restr [0,1] 0 st)).bind fun x=>z1fs N x K
def t1_88 (N:Nat):Tab Bool:=[([0,0,1],z1dw N)]
theorem z1c8 {N:Nat}{c:Ctx}(hb:Base Tryd.prog (zs6 N) c):z10 Tryd.prog c (zl z1l [0,1]) (z1e7 N) :=
 z1h (s:=z114) (m:=188) (g:=z1fs N) [0,1] (zi hb N (t1_88 N) zpv z1l (TabOk.cons (z1bx hb) TabOk.nil) [0,1] _ rfl) (fun x K=>by kernel_rfl)
def z30 (N:Nat)(key:(List UInt8))(l:zxt)(t:DT0)(more:(List DT0))(own:(List (List UInt8)))(others:(List (List UInt8)))(i:Int)(k0:Bool->Option Bool):Option Bool :=
 cond (inR i (List.length l))
 (cond (decide ((300:Int)<(((List.length (List.getD l (Int.toNat i) (false,(([]:List UInt8),(([]:List (List UInt8)),())))).2.1):Nat):Int)))
 (k0 true)
 (cond (inR i (List.length l))
 ((z3a N (List.getD l (Int.toNat i) (false,(([]:List UInt8),(([]:List (List UInt8)),())))).2.2.1 (5:Int) (300:Int)).bind fun y =>
 k0 (!y))
 (none)))
 (none)
def z1f9 (N:Nat)(x:z1k SQ0)(K:Ex->List A->Option Bool):Option Bool :=
 z30 N x.1 x.2.1 x.2.2.1 x.2.2.2.1 x.2.2.2.2.1 x.2.2.2.2.2.1 x.2.2.2.2.2.2.1 (fun a7=>(K .normal (mkS [(0,.v .str),(0,.v (.sl TT7)),(3,.box TT1),(0,.row TT1),(0,.row .str),(0,.row .str),(0,.v (.int .i64)),(45,.v .bool)] 134 (x.1,x.2.1,x.2.2.1,x.2.2.2.1,x.2.2.2.2.1,x.2.2.2.2.2.1,x.2.2.2.2.2.2.1,a7,()))))
def z1do (N:Nat):Hd Bool:=fun st K=>(unS SQ0 180 (restr z10z 0 st)).bind fun x=>z1f9 N x K
def t6_88 (N:Nat):Tab Bool:=[]
theorem z1bp {N:Nat}{c:Ctx}(hb:Base Tryd.prog (zs6 N) c):z10 Tryd.prog c (zl z1l PQ59) (z1do N) :=
 z1h (s:=SQ0) (m:=180) (g:=z1f9 N) z10z (zi hb N (t6_88 N) zpv z1l TabOk.nil PQ59 _ rfl) (fun x K=>by kernel_rfl)
def z31 (N:Nat)(key:(List UInt8))(l:zxt)(t:DT0)(more:(List DT0))(own:(List (List UInt8)))(others:(List (List UInt8)))(i:Int)(k0:Bool->Option Bool)(k1:Option Bool):Option Bool :=
 z30 N key l t more own others i
 (fun x55=>cond x55
 ((z15 N).bind fun y =>
 k0 y)
 (k1))
def z1fa (N:Nat)(x:z1k SQ0)(K:Ex->List A->Option Bool):Option Bool :=
 z31 N x.1 x.2.1 x.2.2.1 x.2.2.2.1 x.2.2.2.2.1 x.2.2.2.2.2.1 x.2.2.2.2.2.2.1 (fun a0=>(K .ret (mkS [(4,.v .bool)] 185 (a0,())))) (K .normal (mkS SQ0 180 (x.1,x.2.1,x.2.2.1,x.2.2.2.1,x.2.2.2.2.1,x.2.2.2.2.2.1,x.2.2.2.2.2.2.1,())))
def z1dp (N:Nat):Hd Bool:=fun st K=>(unS SQ0 180 (restr z10z 0 st)).bind fun x=>z1fa N x K
def t5_88 (N:Nat):Tab Bool:=[(PQ59,z1do N)]
theorem z1bq {N:Nat}{c:Ctx}(hb:Base Tryd.prog (zs6 N) c):z10 Tryd.prog c (zl z1l [0,0,0,1,0,0,1,0,1,1,1,1,1]) (z1dp N) :=
 z1h (s:=SQ0) (m:=180) (g:=z1fa N) z10z (zi hb N (t5_88 N) zpv z1l (TabOk.cons (z1bp hb) TabOk.nil) [0,0,0,1,0,0,1,0,1,1,1,1,1] _ rfl) (fun x K=>by kernel_rfl)
def z2y (N:Nat)(key:(List UInt8))(l:zxt)(t:DT0)(more:(List DT0))(own:(List (List UInt8)))(others:(List (List UInt8)))(i:Int)(ck:(List UInt8))(s:(List UInt8))(f:Int)(d:DT0)(g:Int)(k0:Bool->Option Bool):Option Bool :=
 cond (f != (0:Int))
 (k0 true)
 (k0 (g != (0:Int)))
def z1f6 (N:Nat)(x:z1k SQ1)(K:Ex->List A->Option Bool):Option Bool :=
 z2y N x.1 x.2.1 x.2.2.1 x.2.2.2.1 x.2.2.2.2.1 x.2.2.2.2.2.1 x.2.2.2.2.2.2.1 x.2.2.2.2.2.2.2.1 x.2.2.2.2.2.2.2.2.1 x.2.2.2.2.2.2.2.2.2.1 x.2.2.2.2.2.2.2.2.2.2.1 x.2.2.2.2.2.2.2.2.2.2.2.1 (fun a10=>(K .normal (mkS [(0,.v .str),(0,.v (.sl TT7)),(3,.box TT1),(0,.row TT1),(0,.row .str),(0,.row .str),(0,.v (.int .i64)),(1,.v .str),(0,.v .str),(1,.box TT1),(97,.v .bool)] 77 (x.1,x.2.1,x.2.2.1,x.2.2.2.1,x.2.2.2.2.1,x.2.2.2.2.2.1,x.2.2.2.2.2.2.1,x.2.2.2.2.2.2.2.1,x.2.2.2.2.2.2.2.2.1,x.2.2.2.2.2.2.2.2.2.2.1,a10,()))))
def z1dl (N:Nat):Hd Bool:=fun st K=>(unS SQ1 174 (restr z1h9 0 st)).bind fun x=>z1f6 N x K
def t9_88 (N:Nat):Tab Bool:=[]
theorem z1bm {N:Nat}{c:Ctx}(hb:Base Tryd.prog (zs6 N) c):z10 Tryd.prog c (zl z1l PQ20) (z1dl N) :=
 z1h (s:=SQ1) (m:=174) (g:=z1f6 N) z1h9 (zi hb N (t9_88 N) zpv z1l TabOk.nil PQ20 _ rfl) (fun x K=>by kernel_rfl)
def z2z (N:Nat)(key:(List UInt8))(l:zxt)(t:DT0)(more:(List DT0))(own:(List (List UInt8)))(others:(List (List UInt8)))(i:Int)(ck:(List UInt8))(s:(List UInt8))(f:Int)(d:DT0)(g:Int)(k0:Bool->Option Bool)(k1:Option Bool):Option Bool :=
 z2y N key l t more own others i ck s f d g
 (fun x112=>cond x112
 (k0 false)
 (k1))
def z1f7 (N:Nat)(x:z1k SQ1)(K:Ex->List A->Option Bool):Option Bool :=
 z2z N x.1 x.2.1 x.2.2.1 x.2.2.2.1 x.2.2.2.2.1 x.2.2.2.2.2.1 x.2.2.2.2.2.2.1 x.2.2.2.2.2.2.2.1 x.2.2.2.2.2.2.2.2.1 x.2.2.2.2.2.2.2.2.2.1 x.2.2.2.2.2.2.2.2.2.2.1 x.2.2.2.2.2.2.2.2.2.2.2.1 (fun a0=>(K .ret (mkS [(4,.v .bool)] 185 (a0,())))) (K .normal (mkS [(0,.v .str),(0,.v (.sl TT7)),(3,.box TT1),(0,.row TT1),(0,.row .str),(0,.row .str),(0,.v (.int .i64)),(1,.v .str),(0,.v .str),(1,.box TT1)] 175 (x.1,x.2.1,x.2.2.1,x.2.2.2.1,x.2.2.2.2.1,x.2.2.2.2.2.1,x.2.2.2.2.2.2.1,x.2.2.2.2.2.2.2.1,x.2.2.2.2.2.2.2.2.1,x.2.2.2.2.2.2.2.2.2.2.1,())))
def z1dm (N:Nat):Hd Bool:=fun st K=>(unS SQ1 174 (restr z1h9 0 st)).bind fun x=>z1f7 N x K
def t8_88 (N:Nat):Tab Bool:=[(PQ20,z1dl N)]
theorem z1bn {N:Nat}{c:Ctx}(hb:Base Tryd.prog (zs6 N) c):z10 Tryd.prog c (zl z1l PQ47) (z1dm N) :=
 z1h (s:=SQ1) (m:=174) (g:=z1f7 N) z1h9 (zi hb N (t8_88 N) zpv z1l (TabOk.cons (z1bm hb) TabOk.nil) PQ47 _ rfl) (fun x K=>by kernel_rfl)
def z26 (N:Nat)(key:(List UInt8))(l:zxt)(t:DT0)(more:(List DT0))(own:(List (List UInt8)))(others:(List (List UInt8)))(i:Int)(k0:DT0->(List DT0)->(List (List UInt8))->(List (List UInt8))->Int->Option Bool)(k1:Bool->Option Bool):Option Bool :=
 cond (inR i (List.length l))
 (cond (!(List.getD l (Int.toNat i) (false,(([]:List UInt8),(([]:List (List UInt8)),())))).1)
 (cond (inR i (List.length l))
 ((z59 N t (List.getD l (Int.toNat i) (false,(([]:List UInt8),(([]:List (List UInt8)),())))).2.1).bind fun y =>
 cond (inR i (List.length l))
 (cond (decide ((((List.length own)+1)*16)<=70368744177664))
 (k0 y.1 more (own++([(List.getD l (Int.toNat i) (false,(([]:List UInt8),(([]:List (List UInt8)),())))).2.1]:List (List UInt8))) others y.2.1)
 (none))
 (none))
 (none))
 (cond (inR i (List.length l))
 (cond (decide ((11+(List.length (List.getD l (Int.toNat i) (false,(([]:List UInt8),(([]:List (List UInt8)),())))).2.1))<=9223372036854775807))
 (cond (inR i (List.length l))
 ((z45 N ([(110:UInt8),(111:UInt8),(116:UInt8),(97:UInt8),(114:UInt8),(121:UInt8)]:List UInt8) ([(48:UInt8),(49:UInt8),(50:UInt8),(51:UInt8),(52:UInt8),(53:UInt8),(54:UInt8),(55:UInt8),(56:UInt8),(57:UInt8),(97:UInt8),(98:UInt8),(99:UInt8),(100:UInt8),(101:UInt8),(102:UInt8)]:List UInt8) (([(99:UInt8),(97:UInt8),(118:UInt8),(101:UInt8),(97:UInt8),(116:UInt8),(32:UInt8),(107:UInt8),(101:UInt8),(121:UInt8),(32:UInt8)]:List UInt8)++(List.getD l (Int.toNat i) (false,(([]:List UInt8),(([]:List (List UInt8)),())))).2.1) (List.getD l (Int.toNat i) (false,(([]:List UInt8),(([]:List (List UInt8)),())))).2.1).bind fun y1 =>
 cond (inR i (List.length l))
 ((zoa N ([(110:UInt8),(111:UInt8),(116:UInt8),(97:UInt8),(114:UInt8),(121:UInt8)]:List UInt8) y1.1 (List.getD l (Int.toNat i) (false,(([]:List UInt8),(([]:List (List UInt8)),())))).2.2.1).bind fun y2 =>
 z2z N key l t more own others i (([(99:UInt8),(97:UInt8),(118:UInt8),(101:UInt8),(97:UInt8),(116:UInt8),(32:UInt8),(107:UInt8),(101:UInt8),(121:UInt8),(32:UInt8)]:List UInt8)++(List.getD l (Int.toNat i) (false,(([]:List UInt8),(([]:List (List UInt8)),())))).2.1) y1.1 y1.2.1 y2.1 y2.2.1
 (fun x4=>k1 x4)
 ((z80 N t y1.1 (([(99:UInt8),(97:UInt8),(118:UInt8),(101:UInt8),(97:UInt8),(116:UInt8),(32:UInt8),(107:UInt8),(101:UInt8),(121:UInt8),(32:UInt8)]:List UInt8)++(List.getD l (Int.toNat i) (false,(([]:List UInt8),(([]:List (List UInt8)),())))).2.1) ([(102:UInt8),(101:UInt8),(100:UInt8),(99:UInt8),(98:UInt8),(97:UInt8),(57:UInt8),(56:UInt8),(55:UInt8),(54:UInt8),(53:UInt8),(52:UInt8),(51:UInt8),(50:UInt8),(49:UInt8),(48:UInt8)]:List UInt8)).bind fun y3 =>
 cond (decide ((((List.length more)+1)*56)<=70368744177664))
 (cond (inR i (List.length l))
 (cond (decide ((((List.length others)+(List.length (List.getD l (Int.toNat i) (false,(([]:List UInt8),(([]:List (List UInt8)),())))).2.2.1))*16)<=70368744177664))
 (k0 y3.1 (more++([y2.1]:List DT0)) own (others++(List.getD l (Int.toNat i) (false,(([]:List UInt8),(([]:List (List UInt8)),())))).2.2.1) y3.2.1)
 (none))
 (none))
 (none)))
 (none))
 (none))
 (none))
 (none)))
 (none)
def z1f8 (N:Nat)(x:z1k SQ0)(K:Ex->List A->Option Bool):Option Bool :=
 z26 N x.1 x.2.1 x.2.2.1 x.2.2.2.1 x.2.2.2.2.1 x.2.2.2.2.2.1 x.2.2.2.2.2.2.1 (fun a2 a3 a4 a5 a7=>(K .normal (mkS [(0,.v .str),(0,.v (.sl TT7)),(3,.box TT1),(0,.row TT1),(0,.row .str),(0,.row .str),(0,.v (.int .i64)),(0,.v (.int .i64))] 179 (x.1,x.2.1,a2,a3,a4,a5,x.2.2.2.2.2.2.1,a7,())))) (fun a0=>(K .ret (mkS [(4,.v .bool)] 185 (a0,()))))
def z1dn (N:Nat):Hd Bool:=fun st K=>(unS SQ0 180 (restr z10z 0 st)).bind fun x=>z1f8 N x K
def t7_88 (N:Nat):Tab Bool:=[(PQ47,z1dm N)]
theorem z1bo {N:Nat}{c:Ctx}(hb:Base Tryd.prog (zs6 N) c):z10 Tryd.prog c (zl z1l PQ76) (z1dn N) :=
 z1h (s:=SQ0) (m:=180) (g:=z1f8 N) z10z (zi hb N (t7_88 N) zpv z1l (TabOk.cons (z1bn hb) TabOk.nil) PQ76 _ rfl) (fun x K=>by kernel_rfl)
def z32 (N:Nat)(key:(List UInt8))(l:zxt)(t:DT0)(more:(List DT0))(own:(List (List UInt8)))(others:(List (List UInt8)))(i:Int)(k0:Bool->Option Bool)(k1:DT0->(List DT0)->(List (List UInt8))->(List (List UInt8))->Option Bool):Option Bool :=
 z31 N key l t more own others i
 (fun x4=>k0 x4)
 (z26 N key l t more own others i
 (fun t1 more1 own1 others1 e=>cond (e != (0:Int))
 (k0 false)
 (k1 t1 more1 own1 others1))
 (fun x41=>k0 x41))
def z1fb (N:Nat)(x:z1k SQ0)(K:Ex->List A->Option Bool):Option Bool :=
 z32 N x.1 x.2.1 x.2.2.1 x.2.2.2.1 x.2.2.2.2.1 x.2.2.2.2.2.1 x.2.2.2.2.2.2.1 (fun a0=>(K .ret (mkS [(4,.v .bool)] 185 (a0,())))) (fun a2 a3 a4 a5=>(K .normal (mkS SQ0 180 (x.1,x.2.1,a2,a3,a4,a5,x.2.2.2.2.2.2.1,()))))
def z1dq (N:Nat):Hd Bool:=fun st K=>(unS SQ0 180 (restr z10z 0 st)).bind fun x=>z1fb N x K
def t4_88 (N:Nat):Tab Bool:=[([0,0,0,1,0,0,1,0,1,1,1,1,1],z1dp N),(PQ76,z1dn N)]
theorem z1br {N:Nat}{c:Ctx}(hb:Base Tryd.prog (zs6 N) c):z10 Tryd.prog c (zl z1l z1h8) (z1dq N) :=
 z1h (s:=SQ0) (m:=180) (g:=z1fb N) z10z (zi hb N (t4_88 N) zpv z1l (TabOk.cons (z1bq hb) (TabOk.cons (z1bo hb) TabOk.nil)) z1h8 _ rfl) (fun x K=>by kernel_rfl)
def z2x (N:Nat)(key:(List UInt8))(l:zxt)(t:DT0)(more:(List DT0))(own:(List (List UInt8)))(others:(List (List UInt8)))(i:Int)(rec:DT0->(List DT0)->(List (List UInt8))->(List (List UInt8))->Int->Option Bool)(k0:Bool->Option Bool)(k1:DT0->(List DT0)->(List (List UInt8))->(List (List UInt8))->Option Bool):Option Bool :=
 cond (decide (i<(((List.length l):Nat):Int)))
 (z32 N key l t more own others i
 (fun x4=>k0 x4)
 (fun t1 more1 own1 others1=>rec t1 more1 own1 others1 (IntKind.wrap IntKind.i64 (i+(1:Int)))))
 (k1 t more own others)
def z4r (N:Nat)(key:(List UInt8))(l:zxt)(t:DT0)(more:(List DT0))(own:(List (List UInt8)))(others:(List (List UInt8)))(i:Int)(k0:Bool->Option Bool)(k1:DT0->(List DT0)->(List (List UInt8))->(List (List UInt8))->Option Bool):Option Bool :=
 iter (fun (v:(DT0×(List DT0)×(List (List UInt8))×(List (List UInt8))×Int)) r=>z2x N key l v.1 v.2.1 v.2.2.1 v.2.2.2.1 v.2.2.2.2 (fun t more own others i=>(r (t,more,own,others,i))) k0 k1) N (t,more,own,others,i)
def z1fe (N:Nat)(i:((List UInt8)×zxt))(v:(DT0×(List DT0)×(List (List UInt8))×(List (List UInt8))×Int))(r:(DT0×(List DT0)×(List (List UInt8))×(List (List UInt8))×Int)->Option Bool)(K:Ex->List A->Option Bool):Option Bool :=
 z2x N i.1 i.2 v.1 v.2.1 v.2.2.1 v.2.2.2.1 v.2.2.2.2 (fun t more own others i=>(r (t,more,own,others,i))) (fun a0=>(K .ret (mkS [(4,.v .bool)] 185 (a0,())))) (fun a1 a2 a3 a4=>(K (.exit 0) (mkS SQ5 181 (i.1,a1,a2,a3,a4,()))))
def z1dt (N:Nat):Hd Bool:=fun st K=>(unS SQ0 180 (restr z19u 0 st)).bind fun x=>iter (fun v r=>z1fe N ((fun x=>(x.1,x.2.1)) x) v r K) N ((fun x=>(x.2.2.1,x.2.2.2.1,x.2.2.2.2.1,x.2.2.2.2.2.1,x.2.2.2.2.2.2.1)) x)
def t3_88 (N:Nat):Tab Bool:=[(z1h8,z1dq N)]
theorem z1bu {N:Nat}{c:Ctx}(hb:Base Tryd.prog (zs6 N) c):z10 Tryd.prog c (zl z1l z1aj) (z1dt N) :=
 z2t (s:=SQ0) (m:=180) (z1fe N) z19u N (fun x=>(x.1,x.2.1)) (fun x=>(x.2.2.1,x.2.2.2.1,x.2.2.2.2.1,x.2.2.2.2.2.1,x.2.2.2.2.2.2.1)) (fun i v=>(i.1,i.2,v.1,v.2.1,v.2.2.1,v.2.2.2.1,v.2.2.2.2,())) (fun _=>rfl) (zi hb N (t3_88 N) zpv z1l (TabOk.cons (z1br hb) TabOk.nil) [0,0,1,0,1,1,1,1,1] _ rfl) (fun i v r K=>by kernel_rfl)
def z36 (N:Nat):Env:={ zs6 N with lent:=[0,5,6] }
def z2s (N:Nat):Hd (Option Bool):=fun st K=>evN (z36 N) N [] zpv z13k (zl z1l z13k) st fun e st1=>match e with
 | .normal=>evN (z36 N) N [] zpv z1h7 (zl z1l z1h7) st1 K
 | e=>K e st1
def z1g (n:Nat) (e:Ex) (st:List A):Option (Option Bool):=match Nat.beq st.length n with
 | true=>(match e with
   | .normal=>some none
   | .ret=>(match st.getD 4 .dead with
     | .v .bool b=>some (some b)
     | _=>none)
   | .exit _=>none)
 | false=>none
def zp:Option Bool->Ex×List Nat×List (Nat×Dat)
 | none=>(.normal,[0,5,6],[])
 | some b=>(.ret,[],[(4,⟨.bool,b⟩)])
theorem z7j:∀ n e st' g,z1g n e st'=some g->e=(zp g).1/\st'.length=n/\(∀ i∈(zp g).2.1,i∈[0,5,6])/\∀ i d,dAt (zp g).2.2 i=some d->st'[i]?=some (.v d.1 d.2)/\zp8 d.1=true:=by
 intro n e st' g h;unfold z1g at h;split at h
 case h_2=>cases h
 rename_i hn;have hn:=z3x hn;cases e with
 | normal=>simp at h;subst h;exact⟨rfl,hn,fun i hi=>hi,fun i d hd=>by cases hd⟩
 | ret =>
   dsimp only at h;split at h
   . rename_i b hb;simp at h;subst h;refine⟨rfl,hn,fun i hi=>(by cases hi),fun i d hd=>?_⟩;simp only[zp,dAt] at hd;split at hd
     . rename_i hi;have hi:=z3x hi;subst hi;cases hd;exact⟨zm hb (by simp),rfl⟩
     . cases hd
   . cases h
 | exit id=>cases h
def z2n (N:Nat)(key:List UInt8)(t:DT0)(more:List DT0)(own others:List (List UInt8)):Option (Option Bool) :=
 (zat N t more).bind fun y1=>(z21 N key y1).bind fun y2 =>
 cond (y2.2.1 != (0:Int)) (some (some false))
 (cond (decide ((((List.length own)+(List.length others))*16)<=70368744177664))
 ((z2j N y2.1 (own++others)).bind fun y =>
 cond (!y) (some (some false)) (some none))
 (none))
theorem z7h (N:Nat)(x:z1k SQ5):z2s N (z122 [6,5] (mkS SQ5 181 x)) (z1g 190)=z2n N x.1 x.2.1 x.2.2.1 x.2.2.2.1 x.2.2.2.2.1:=by kernel_rfl
def z2r (N:Nat):Hd Int:=evN (z36 N) N [] zpv z1an (zl z1l z1an)
def z1f (n:Nat) (e:Ex) (st:List A):Option Int:=match Nat.beq st.length n with
 | true=>(match e with
   | .normal=>(match st.getD 19 .dead with
     | .v (.int .i64) b=>some b
     | _=>none)
   | _=>none)
 | false=>none
def z1e (z:Int):Ex×List Nat×List (Nat×Dat):=(.normal,[0,5,6],[(19,⟨.int .i64,z⟩)])
theorem z7i:∀ n e st' g,z1f n e st'=some g->e=(z1e g).1/\st'.length=n/\(∀ i∈(z1e g).2.1,i∈[0,5,6])/\∀ i d,dAt (z1e g).2.2 i=some d->st'[i]?=some (.v d.1 d.2)/\zp8 d.1=true:=by
 intro n e st' g h;unfold z1f at h;split at h
 case h_2=>cases h
 rename_i hn;have hn:=z3x hn;split at h
 . split at h
   . rename_i b hb;simp at h;subst h;refine⟨rfl,hn,fun i hi=>hi,fun i d hd=>?_⟩;simp only[z1e,dAt] at hd;split at hd
     . rename_i hi;have hi:=z3x hi;subst hi;cases hd;exact⟨zm hb (by simp),rfl⟩
     . cases hd
   . cases h
 . cases h
def z2m (N:Nat)(key:List UInt8)(t:DT0)(more:List DT0):Option Int :=
 cond (decide (((0:Int)<=(1:Int))/\((1:Int)<=(((List.length more):Nat):Int))))
 ((zat N t (cut more 1 (List.length more))).bind fun y4 =>
 (z21 N key y4).bind fun y5=>some y5.2.1)
 (none)
theorem z7g (N:Nat)(x:z1k SQ9):z2r N (z122 [6,5] (mkS SQ9 183 x)) (z1f 190)=z2m N x.1 x.2.1 x.2.2.1:=by kernel_rfl
def z2o (N:Nat)(key:List UInt8)(t:DT0)(more:List DT0)(f:Int)(k0:Bool->Option Bool):Option Bool :=
 cond (inR (0:Int) (List.length more))
 (cond (decide (0<List.length more))
 (cond (decide ((((List.length more)+1)*56)<=70368744177664))
 ((zat N t (more++([List.getD more 0 (([]:List UInt8),(([]:List DT6),(([]:List UInt8),())))]:List DT0))).bind fun y4 =>
 (z21 N key y4).bind fun y5 =>
 cond (f == (11:Int))
 (cond (y5.2.1 == (11:Int))
 ((z15 N).bind fun y6=>k0 y6)
 (cond (y5.2.1 == (3:Int))
 ((z15 N).bind fun y6=>k0 y6)
 (k0 false)))
 (k0 false))
 (none))
 (none))
 (none)
def z147 (N:Nat)(x:z1k SQ40)(K:Ex->List A->Option Bool):Option Bool :=
 z2o N x.1 x.2.1 x.2.2.1 x.2.2.2.1 (fun a0=>K .ret (mkS [(4,.v .bool)] 185 (a0,())))
def z141 (N:Nat):Hd Bool:=fun st K=>(unS SQ40 170 (restr [0,5,6,19] 0 st)).bind fun x=>z147 N x K
theorem z161 {N:Nat}{c:Ctx}(hb:Base Tryd.prog (zs6 N) c):z10 Tryd.prog c (zl z1l [1,1,1,1,1,1,1,1,1,1]) (z141 N) :=
 z1h (s:=SQ40) (m:=170) (g:=z147 N) [0,5,6,19] (zi hb N [] zpv z1l TabOk.nil [1,1,1,1,1,1,1,1,1,1] _ rfl) (fun x K=>by kernel_rfl)
def z2p (N:Nat)(key:List UInt8)(t:DT0)(more:List DT0)(k0:Bool->Option Bool):Option Bool :=
 (z2m N key t more).bind fun f=>z2o N key t more f k0
def z4e (N:Nat)(x:z1k SQ9)(K:Ex->List A->Option Bool):Option Bool :=
 z2p N x.1 x.2.1 x.2.2.1 (fun a0=>K .ret (mkS [(4,.v .bool)] 185 (a0,())))
def z142 (N:Nat):Hd Bool:=fun st K=>(unS SQ9 183 (restr [0,5,6] 0 st)).bind fun x=>z4e N x K
theorem z162 {N:Nat}{c:Ctx}(hb:Base Tryd.prog (zs6 N) c):z10 Tryd.prog c (zl z1l [1,1,1,1,1,1,1,1,1]) (z142 N):=by
 refine z1h (s:=SQ9) (m:=183) (g:=z4e N) [0,5,6] (z15u (k1:=zl z1l z1an) (k2:=zl z1l [1,1,1,1,1,1,1,1,1,1]) (zys (f:=z2r N) [6,5] [0,5,6] z1f z1e (z112 N) rfl z7i (fun c' hb'=>zi hb' N [] zpv z1l TabOk.nil z1an _ rfl) hb) (z161 hb)) (fun x K=>?_);show ((z2r N (z122 [6,5] (mkS SQ9 183 x)) (z1f 190)).bind fun g=>z141 N (mer [0,5,6] [(19,⟨.int .i64,g⟩)] 0 (mkS SQ9 183 x)) K)=_;rw[z7g];rfl
def z2q (N:Nat)(key:List UInt8)(t:DT0)(more:List DT0)(k0:Bool->Option Bool):Option Bool :=
 cond ((((List.length more):Nat):Int) == (0:Int))
 ((z15 N).bind fun y3=>k0 y3)
 (z2p N key t more k0)
def z149 (N:Nat)(x:z1k SQ9)(K:Ex->List A->Option Bool):Option Bool :=
 z2q N x.1 x.2.1 x.2.2.1 (fun a0=>K .ret (mkS [(4,.v .bool)] 185 (a0,())))
def z143 (N:Nat):Hd Bool:=fun st K=>(unS SQ9 183 (restr [0,5,6] 0 st)).bind fun x=>z149 N x K
theorem z163 {N:Nat}{c:Ctx}(hb:Base Tryd.prog (zs6 N) c):z10 Tryd.prog c (zl z1l [1,1,1,1,1,1,1,1]) (z143 N) :=
 z1h (s:=SQ9) (m:=183) (g:=z149 N) [0,5,6] (zi hb N [([1,1,1,1,1,1,1,1,1],z142 N)] zpv z1l (TabOk.cons (z162 hb) TabOk.nil) [1,1,1,1,1,1,1,1] _ rfl) (fun x K=>by kernel_rfl)
def z1o (N:Nat)(key:List UInt8)(t:DT0)(more:List DT0)(own others:List (List UInt8))(k0:Bool->Option Bool):Option Bool :=
 (z2n N key t more own others).bind fun g=>match g with
 | none=>z2q N key t more k0
 | some b=>k0 b
def z35 (N:Nat)(x:z1k SQ5)(K:Ex->List A->Option Bool):Option Bool :=
 z1o N x.1 x.2.1 x.2.2.1 x.2.2.2.1 x.2.2.2.2.1 (fun a0=>K .ret (mkS [(4,.v .bool)] 185 (a0,())))
def z4s (N:Nat):Hd Bool:=fun st K=>(unS SQ5 181 (restr [0,5,6,7,8] 0 st)).bind fun x=>z35 N x K
theorem z8l {N:Nat}{c:Ctx}(hb:Base Tryd.prog (zs6 N) c):z10 Tryd.prog c (zl z1l [1,1,1,1,1,1]) (z4s N):=by
 refine z1h (s:=SQ5) (m:=181) (g:=z35 N) [0,5,6,7,8] (z15t (k1:=zl z1l z13k) (k2:=zl z1l z1h7) (k3:=zl z1l [1,1,1,1,1,1,1,1]) (zys (f:=z2s N) [6,5] [0,5,6] z1g zp (z112 N) rfl z7j (fun c' hb'=>seqT (zi hb' N [] zpv z1l TabOk.nil z13k _ rfl) (zi hb' N [] zpv z1l TabOk.nil z1h7 _ rfl)) hb) (z163 hb)) (fun x K=>?_);show ((z2s N (z122 [6,5] (mkS SQ5 181 x)) (z1g 190)).bind fun g=>(match (zp g).1 with
  | .normal=>z143 N (mer (zp g).2.1 (zp g).2.2 0 (mkS SQ5 181 x)) K
  | e=>K e (mer (zp g).2.1 (zp g).2.2 0 (mkS SQ5 181 x))))=_
 rw[z7h,z35,z1o];congr 1
 funext g
 cases g with
 | none=>rfl
 | some b=>rfl
def z1m (N:Nat)(key:(List UInt8))(l:zxt):Option Bool :=
 z34 N key l
 (fun x4=>some x4)
 ((z4j N key ([(105:UInt8),(100:UInt8)]:List UInt8)).bind fun y =>
 z4r N key l (([(105:UInt8),(100:UInt8)]:List UInt8),(([]:List DT6),(y,()))) ([]:List DT0) ([]:List (List UInt8)) ([]:List (List UInt8)) (0:Int)
 (fun x41=>some x41)
 (fun t more own others=>z1o N key t more own others (fun x42=>some x42)))
def t_88 (N:Nat):Tab Bool:=[([0,1],z1e7 N),(z1aj,z1dt N),([1,1,1,1,1,1],z4s N)]
theorem z169 (N:Nat)(x:z1k z114):z3v (zs6 N) N (t_88 N) zpv Tryd.f3 (mkS z114 0 x) (z1r (.v .bool) 2)=z1m N x.1 x.2.1:=by kernel_rfl
def z8k (N:Nat):List A->Res:=z14 z114 (fun x=>z1m N x.1 x.2.1) (z3r (.v .bool) 2)
theorem z99 (N:Nat):Contract Tryd.prog glob 3 (z8k N) :=
 Contract.of (E:=zs6 N) (H:=t_88 N) (L:=zpv) (N:=N) (body:=z1l) (K:=(z1r (.v .bool) 2)) (z112 N) Tryd.func3 (by kernel_rfl) (by decide) (fun _ hb=>(TabOk.cons (z1c8 hb) (TabOk.cons (z1bu hb) (TabOk.cons (z8l hb) TabOk.nil)))) (fun x y h=>by rw[z169];exact h) (zq (s:=(.v .bool)) (m:=2))
end
end Go.Proofs.YtlhdohlpilippaaDoorLg
set_option linter.all false
namespace Go.Proofs.YtlhdohlpilippaaDoorLg
noncomputable section
open Go Go.Lift
theorem zka {α σ β:Type}{step:α->σ->(σ->Option β)->Option β}{fin:σ->Option β}(I:σ->List α->Prop)(g:σ->α->σ)
 (h:∀ y ys v r,I v (y::ys)->step y v r=r (g v y)/\I (g v y) ys):∀ (xs:List α) (v:σ),I v xs->zbe step fin xs v=fin (xs.foldl g v)
 | [],v,_=>rfl
 | y::ys,v,hI=>by
   obtain⟨h1,h2⟩:=h y ys v (zbe step fin ys) hI;rw[zbe,h1,zka I g h ys _ h2];rfl
theorem zbh {α:Type}(y:α)(l:List α):zpd y (some l) (some [])=some (y::l):=rfl
theorem toStr_ofStr (s:List UInt8):z43 (z4p s)=s:=by
 induction s with
 | nil=>rfl
 | cons b s ih =>
   simp only[z43,z4p,List.map_cons,List.cons.injEq];refine⟨?_,by simpa[z43,z4p] using ih⟩;apply UInt8.toNat_inj.1;simp
theorem zqu (s:List UInt8):(z4p s).all (fun n=>decide (0<=n) && decide (n<256))=true:=by
 rw[List.all_eq_true];intro n hn;obtain⟨b,_,rfl⟩:=List.mem_map.1 hn;have:=b.toNat_lt;simp only[Bool.and_eq_true,decide_eq_true_eq];omega
end
end Go.Proofs.YtlhdohlpilippaaDoorLg
set_option linter.all false
namespace Go.Proofs.YtlhdohlpilippaaDoorPx
noncomputable section
open Go Go.Lift
theorem z4w {σ β:Type}{step:σ->(σ->Option β)->Option β}(I:σ->Prop)(m:σ->Nat)(R:σ->Option β)
 (h:∀ v r,I v->(∀ v',I v'->m v'<m v->r v'=R v')->step v r=R v):∀ (n:Nat) (v:σ),I v->m v<n->iter step n v=R v
 | 0,v,_,hm=>by omega
 | n+1,v,hv,hm=>h v (iter step n) hv fun v' hv' hlt=>z4w I m R h n v' hv' (by omega)
theorem z1aq (x:Int):IntKind.wrap .i64 x=(x+9223372036854775808) % 18446744073709551616 - 9223372036854775808:=by
 simp only[IntKind.wrap,IntKind.bits,IntKind.signed,Bool.true_and,decide_eq_true_eq,Nat.add_one_sub_one,Int.reducePow,ge_iff_le];split<;>omega
def I64 (x:Int):Prop:=-9223372036854775808<=x/\x<=9223372036854775807
instance (x:Int):Decidable (I64 x):=by unfold I64;infer_instance
theorem z4k {x:Int}(h:I64 x):IntKind.wrap .i64 x=x:=by
 rw[z1aq];unfold I64 at h;omega
theorem zj {α:Type}{b:Bool}(h:b=true)(x y:α):cond b x y=x:=by rw[h];rfl
theorem z1a {α:Type}{b:Bool}(h:b=false)(x y:α):cond b x y=y:=by rw[h];rfl
theorem z2b {n len:Nat}(h:n<len):inR (n:Int) len=true:=by simp only[inR,decide_eq_true_eq];omega
def zpa:T->Bool
 | .int _=>true
 | .bool=>true
 | .str=>true
 | .unit=>true
 | .pair a b=>zpa a && zpa b
 | .arr _ t=>zpa t
 | _=>false
theorem zp9:∀ (t:T) (x y:t.den),zpa t=true->(eqD t x y=true ↔ x=y)
 | .int _,x,y,_=>by simp[eqD]
 | .bool,x,y,_=>by simp[eqD]
 | .str,x,y,_=>by simp[eqD]
 | .unit,x,y,_=>by simp[eqD]
 | .pair a b,x,y,h=>by
   simp only[zpa,Bool.and_eq_true] at h;have h1:=zp9 a x.1 y.1 h.1;have h2:=zp9 b x.2 y.2 h.2;simp only[eqD];cases hq:eqD a x.1 y.1 with
   | false =>
     rw[hq] at h1;simp only[cond_false,Bool.false_eq_true,false_iff];intro e;exact absurd (h1.2 (by rw[e])) (by simp)
   | true =>
     rw[cond_true,h2];constructor
     . intro e;exact Prod.ext (h1.1 hq) e
     . intro e;rw[e]
 | .arr n t,xs,ys,h=>by
   have h:zpa t=true:=h;simp only[eqD]
   induction xs generalizing ys with
   | nil=>cases ys<;>simp[zvr]
   | cons x xs ih =>
     cases ys with
     | nil=>simp[zvr]
     | cons y ys =>
       have h1:=zp9 t x y h;simp only[zvr];cases hq:eqD t x y with
       | false =>
         rw[hq] at h1;simp only[cond_false,Bool.false_eq_true,false_iff];intro e;exact absurd (h1.2 (List.cons.inj e).1) (by simp)
       | true =>
         rw[cond_true];have h2:zvr (eqD t) xs ys=true ↔ xs=ys:=ih ys;constructor
         . intro e;rw[h1.1 hq,h2.1 e]
         . intro e;exact h2.2 (List.cons.inj e).2
 | .opq,x,y,h=>by simp[zpa] at h
 | .sl _,x,y,h=>by simp[zpa] at h
 | .ptr _,x,y,h=>by simp[zpa] at h
end
end Go.Proofs.YtlhdohlpilippaaDoorPx
set_option linter.all false
set_option maxRecDepth 100000
namespace Go.Proofs.YtlhdohlpilippaaDoorLg
noncomputable section
open Go Go.Lift Go.Proofs.YtlhdohlpilippaaDoorPx
def be8 (n:Nat):List UInt8:=z43 (([56,48,40,32,24,16,8,0]:List Int).map fun j=>IntKind.wrap .u8 (zaw .u64 (IntKind.wrap .u64 ((n:Nat):Int)) j))
theorem zzk (k:Nat)(s:List UInt8):zcc (k+9) s=some (be8 s.length):=by kernel_rfl
def zem (l:List (List UInt8)):List (List UInt8×Unit):=(l.map fun p=>[(be8 p.length,()),(p,())]).flatten
theorem zgv (p:List UInt8)(l:List (List UInt8)):zem (p::l)=(be8 p.length,())::(p,())::zem l:=rfl
theorem z100 (k:Nat) (l:List (List UInt8)) (hl:l.length<1000000) (hk:l.length<k+9):za4 (k+9) l=some (zem l):=by
 have key:=z4w (step:=fun (v:Int) r=>z6s (k+9) l (((List.length l):Nat):Int) v (fun x7=>(r x7)) (some []) (some [])) (fun v=>0<=v/\v<=(l.length:Int)) (fun v=>l.length - v.toNat) (fun v=>some (zem (l.drop v.toNat))) (by
  rintro v r ⟨h0,h1⟩ ih;unfold z6s;by_cases hv:v<(l.length:Int)
  . have hn:v.toNat<l.length:=by omega
    have hw:IntKind.wrap .i64 (v+1)=v+1:=z4k ⟨by omega,by omega⟩;have hr:=ih (v+1) ⟨by omega,by omega⟩ (by omega);have hd:l.drop v.toNat=l[v.toNat]::l.drop (v+1).toNat:=by
     rw[show (v+1).toNat=v.toNat+1 by omega,List.getElem_cons_drop]
    have hg:l.getD v.toNat ([]:List UInt8)=l[v.toNat]:=by simp[List.getD,hn]
    rw[zj (by simpa using hv),zj (by simp[inR,h0,hv]),zzk,hg,Option.bind_some,hw];dsimp only;rw[hr,zbh,zbh,hd,zgv]
  . have hn:v.toNat=l.length:=by omega
    rw[z1a (by simpa using hv),hn,List.drop_length];rfl) (k+9) 0 ⟨by omega,by omega⟩ (by simpa using hk)
 exact key
def z1n (l:List (List UInt8)):List UInt8:=((zem l).map (·.1)).flatten
theorem zqv (a b:List UInt8):z4p (a++b)=z4p a++z4p b:=by simp[z4p]
theorem ofStr_length (a:List UInt8):(z4p a).length=a.length:=by simp[z4p]
theorem zvn (ys:List (List UInt8×Unit)):∀ a:List UInt8,ys.foldl (fun (v:Unit×(List Int×Unit)) (y:List UInt8×Unit)=>((),(v.2.1++z4p y.1,()))) ((),(z4p a,()))=((),(z4p (a++(ys.map (·.1)).flatten),())):=by
 induction ys with
 | nil=>intro a;simp
 | cons y ys ih =>
   intro a;rw[List.foldl_cons];dsimp only;rw[<- zqv,ih];simp
theorem z12x (k:Nat)(l:List (List UInt8))(hl:l.length<1000000)(hk:l.length<k+9)(hb:(z1n l).length<=70368744177664):z6g (k+9) l=some (z1n l):=by
 unfold z6g zha z6v;rw[z100 k l hl hk,Option.bind_some];rw[zka (fun (v:Unit×(List Int×Unit)) (ys:List (List UInt8×Unit))=>v.2.1.length+((ys.map (·.1)).flatten).length<=70368744177664) (fun v y=>((),(v.2.1++z4p y.1,()))) (by
  rintro y ys ⟨u,xs,u'⟩ r hI;cases u;cases u';simp only[List.map_cons,List.flatten_cons,List.length_append] at hI;refine⟨?_,by simp only[List.length_append,ofStr_length];omega⟩;unfold zcf z17;rw[zj (decide_eq_true (by rw[ofStr_length];dsimp only;omega)),Option.bind_some]) _ _ (by simpa[z1n] using hb)]
 have hf:=zvn (zem l) [];have h0:z4p ([]:List UInt8)=[]:=rfl;rw[h0] at hf;rw[hf];unfold zsg;dsimp only;rw[zj (by
  rw[Bool.and_eq_true];refine⟨zqu _,decide_eq_true ?_⟩;rw[ofStr_length];exact Nat.le_trans (show (z1n l).length<=_ from hb) (by decide))]
 rw[Option.bind_some];dsimp only;rw[toStr_ofStr];rfl
end
end Go.Proofs.YtlhdohlpilippaaDoorLg
set_option linter.all false
set_option maxRecDepth 100000
namespace Go.Proofs.YtlhdohlpilippaaDoorLg
noncomputable section
open Go Go.Lift Go.Proofs.YtlhdohlpilippaaDoorPx
theorem wrap8 (x:Int):IntKind.wrap .u8 x=x % 256:=by
 simp[IntKind.wrap,IntKind.signed,IntKind.bits]
theorem z1h3 (n:Nat)(hn:n<9223372036854775808)(i:Nat)(hi:i<=7):UInt8.ofNat (IntKind.wrap .u8 (zaw .u64 (IntKind.wrap .u64 ((n:Nat):Int)) ((8*i:Nat):Int))).toNat=UInt8.ofNat (n / 256^i):=by
 have h1:IntKind.wrap .u64 ((n:Nat):Int)=(n:Int):=by
  simp[IntKind.wrap,IntKind.signed,IntKind.bits];omega
 have h2:zaw .u64 (n:Int) ((8*i:Nat):Int)=((n / 256^i:Nat):Int):=by
  unfold zaw;have hm:min (Int.toNat ((8*i:Nat):Int)) (IntKind.u64).bits=8*i:=by
   rw[Int.toNat_natCast];exact Nat.min_eq_left (by show 8*i<=64;omega)
  rw[hm,Int.fdiv_eq_ediv_of_nonneg _ (Int.pow_nonneg (by decide))];have hp:(2:Int)^(8*i)=((256^i:Nat):Int):=by
   rw[show (256:Nat)=2^8 by decide,<- Nat.pow_mul];simp
  rw[hp];rfl
 rw[h1,h2,wrap8];generalize n / 256^i=m;apply UInt8.toNat_inj.1;rw[UInt8.toNat_ofNat',UInt8.toNat_ofNat'];omega
theorem z9n (p:List UInt8)(l:List (List UInt8)):z1n (p::l)=be8 p.length++(p++z1n l):=by
 simp[z1n,zgv]
end
end Go.Proofs.YtlhdohlpilippaaDoorLg
set_option linter.all false
namespace Go.Proofs.YtlhdohlpilippaaDoorPx
noncomputable section
open Go Go.Lift
theorem zxv (x:Int):IntKind.wrap .u8 x=x % 256:=by
 simp only[IntKind.wrap,IntKind.bits,IntKind.signed,Bool.false_and,Bool.false_eq_true,if_false];rfl
theorem zw2 {x:Int}(h0:0<=x)(h1:x<256):IntKind.wrap .u8 x=x:=by rw[zxv];omega
theorem z117 (u:UInt8):u.toNat<256:=u.toNat_lt
theorem z2v {i:Nat}(h:i<9223372036854775807):IntKind.wrap .i64 ((i:Int)+1)=((i+1:Nat):Int):=by
 rw[z4k (by unfold I64;omega)];omega
theorem zeo (u:UInt8):BitVec.ofInt 8 ((u.toNat:Nat):Int)=u.toBitVec:=by
 rw[BitVec.ofInt_natCast];apply BitVec.eq_of_toNat_eq;have h1:u.toBitVec.toNat=u.toNat:=rfl;have:=z117 u;rw[BitVec.toNat_ofNat,h1];omega
theorem zq0 (u:UInt8):IntKind.wrap .u8 ((u.toNat:Nat):Int)=((u.toNat:Nat):Int):=by
 have:=z117 u;exact zw2 (by omega) (by omega)
theorem z13m (a b:UInt8):zu .xor .u8 ((a.toNat:Nat):Int) ((b.toNat:Nat):Int)=(((a ^^^ b).toNat:Nat):Int):=by
 have e:zu .xor .u8 ((a.toNat:Nat):Int) ((b.toNat:Nat):Int)=IntKind.wrap .u8 ((BitVec.ofInt 8 ((a.toNat:Nat):Int) ^^^ BitVec.ofInt 8 ((b.toNat:Nat):Int)).toNat:Int):=rfl;rw[e,zeo,zeo];have h:(a.toBitVec ^^^ b.toBitVec).toNat=(a ^^^ b).toNat:=rfl;rw[h,zq0]
theorem or_u8 (a b:UInt8):zu .or .u8 ((a.toNat:Nat):Int) ((b.toNat:Nat):Int)=(((a ||| b).toNat:Nat):Int):=by
 have e:zu .or .u8 ((a.toNat:Nat):Int) ((b.toNat:Nat):Int)=IntKind.wrap .u8 ((BitVec.ofInt 8 ((a.toNat:Nat):Int) ||| BitVec.ofInt 8 ((b.toNat:Nat):Int)).toNat:Int):=rfl;rw[e,zeo,zeo];have h:(a.toBitVec ||| b.toBitVec).toNat=(a ||| b).toNat:=rfl;rw[h,zq0]
theorem zq2 (a b:List Int):z43 (a++b)=z43 a++z43 b:=by simp[z43]
theorem zw4 (u:UInt8):z43 [((u.toNat:Nat):Int)]=[u]:=by simp[z43]
theorem toStr_ofStr (s:List UInt8):z43 (z4p s)=s:=by
 simp[z43,z4p,Function.comp_def]
theorem ofStr_length (s:List UInt8):(z4p s).length=s.length:=by simp[z4p]
theorem zkj (n:Nat):z43 (List.replicate n (0:Int))=List.replicate n (0:UInt8):=by simp[z43]
theorem z12u {α:Type}(l:List α)(d:α)(i:Nat)(h:i<l.length):l.getD i d∈l:=by
 rw[List.getD_eq_getElem?_getD,List.getElem?_eq_getElem h];simp
theorem z2k {α:Type}(l:List α)(d:α)(i:Nat)(h:i<l.length):l.drop i=l.getD i d::l.drop (i+1):=by
 rw[List.getD_eq_getElem?_getD,List.getElem?_eq_getElem h,Option.getD_some,List.drop_eq_getElem_cons h]
theorem z6y {α:Type}(l:List α){i:Nat}(h:l.length<=i):l.drop i=[]:=List.drop_of_length_le h
theorem z3m {p:Prop}[Decidable p](h:p):decide p=true:=decide_eq_true h
theorem zaq {p:Prop}[Decidable p](h:¬ p):decide p=false:=decide_eq_false h
theorem take_succ {α:Type}(l:List α)(d:α)(i:Nat)(h:i<l.length):l.take (i+1)=l.take i++[l.getD i d]:=by
 rw[List.getD_eq_getElem?_getD,List.getElem?_eq_getElem h,Option.getD_some,List.take_succ_eq_append_getElem h]
theorem zol {α:Type}(l:List α)(x:α)(i:Nat)(h:i<l.length):(l.set i x).take (i+1)=l.take i++[x]:=by
 rw[List.take_succ_eq_append_getElem (by simpa using h),List.getElem_set_self];congr 1;apply List.ext_getElem?;intro j;rw[List.getElem?_take,List.getElem?_take];split
 . rw[List.getElem?_set_ne (by omega)]
 . rfl
theorem zw3 (a b:UInt8):(((a.toNat:Nat):Int)=((b.toNat:Nat):Int)) ↔ a=b:=by
 rw[<- UInt8.toNat_inj];omega
theorem z167 {α:Type}(a b:List α):(if ((b.length:Nat):Int)<((a.length:Nat):Int) then ((b.length:Nat):Int) else ((a.length:Nat):Int))=((min a.length b.length:Nat):Int):=by
 split<;>omega
theorem zhc {α:Type}(l:List α)(n:Nat):cut l 0 n=l.take n:=by simp[cut]
theorem zpc {α:Type}(l:List α)(n:Nat):cut l n l.length=l.drop n:=by simp[cut]
theorem z18i {α:Type}(l:List α)(n k:Nat):cut l n (n+k)=(l.drop n).take k:=by
 unfold cut;rw[List.drop_take];congr 1;omega
end
end Go.Proofs.YtlhdohlpilippaaDoorPx
set_option linter.all false
namespace Go.Proofs.YtlhdohlpilippaaDoorLg
noncomputable section
open Go Go.Lift Go.Proofs.YtlhdohlpilippaaDoorPx
theorem zyu (N:Nat){s:List UInt8}{m:Nat}(hm:m<=65536)(hs:s.length<=m):zba N s (m:Int)=some (s++List.replicate (m - s.length) 0):=by
 have e:(if (65536:Int)<(m:Int) then (65536:Int) else (m:Int))=(m:Int):=by rw[if_neg (by omega)]
 simp only[zba,e];have hw:IntKind.wrap .i64 ((m:Int) - (((s.length:Nat)):Int))=((m - s.length:Nat):Int):=by rw[z4k (by unfold I64;omega)];omega
 by_cases h2:s.length=m
 . rw[zj (z3m (by omega)),h2];simp
 . rw[z1a (zaq (by omega)),hw,Int.toNat_natCast,zkj,zj (z3m (by omega)),zj (z3m (by rw[List.length_replicate];omega))]
theorem z13s (n k:Nat)(hk:k<=64):zaw .u64 (n:Int) (k:Int)=((n / 2^k:Nat):Int):=by
 have e:min ((k:Int)).toNat (IntKind.bits .u64)=k:=by rw[Int.toNat_natCast];exact Nat.min_eq_left hk
 unfold zaw;rw[e,Int.fdiv_eq_ediv_of_nonneg _ (by exact_mod_cast Nat.zero_le _)]
 norm_cast
def beL (n:Nat):List UInt8:=[0,0,0,0,0,UInt8.ofNat (n / 65536),UInt8.ofNat (n / 256 % 256),UInt8.ofNat (n % 256)]
theorem be_eq (k:Nat){n:Nat}(hn:n<16777216):z57 (k+20) (n:Int) 8=some (beL n):=by
 have h:z57 (k+20) (n:Int) 8=some (z43 [IntKind.wrap .u8 (zaw .u64 n ((56:Nat):Int)),IntKind.wrap .u8 (zaw .u64 n ((48:Nat):Int)),IntKind.wrap .u8 (zaw .u64 n ((40:Nat):Int)),IntKind.wrap .u8 (zaw .u64 n ((32:Nat):Int)),IntKind.wrap .u8 (zaw .u64 n ((24:Nat):Int)),IntKind.wrap .u8 (zaw .u64 n ((16:Nat):Int)),IntKind.wrap .u8 (zaw .u64 n ((8:Nat):Int)),IntKind.wrap .u8 (zaw .u64 n ((0:Nat):Int))]):=by kernel_rfl
 have hx:∀ a b:Nat,a % 256=b->UInt8.ofNat ((((a:Nat):Int) % 256).toNat)=UInt8.ofNat b:=by
  intro a b e;congr 1
 rw[h];simp only[z13s n _ (by decide:0<=64),z13s n _ (by decide:8<=64),z13s n _ (by decide:16<=64),z13s n _ (by decide:24<=64),z13s n _ (by decide:32<=64),z13s n _ (by decide:40<=64),z13s n _ (by decide:48<=64),z13s n _ (by decide:56<=64),z43,List.map_cons,List.map_nil,zxv,beL];rw[hx _ 0 (by omega:n / 2^56 % 256=0),hx _ 0 (by omega:n / 2^48 % 256=0),hx _ 0 (by omega:n / 2^40 % 256=0),hx _ 0 (by omega:n / 2^32 % 256=0),hx _ 0 (by omega:n / 2^24 % 256=0),hx _ (n / 65536) (by omega:n / 2^16 % 256=n / 65536),hx _ (n / 256 % 256) (by omega:n / 2^8 % 256=n / 256 % 256),hx _ (n % 256) (by omega:n / 2^0 % 256=n % 256)];rfl
def zer (n:Nat):Nat:=(119 - n % 64) % 64
def zgf (n:Nat):List UInt8:=([128]++List.replicate (zer n) 0)++beL (8*n)
theorem z9w (n:Nat):(zgf n).length=9+zer n:=by simp[zgf,beL];omega
theorem zse (n:Nat):(n+(zgf n).length) % 64=0:=by rw[z9w];unfold zer;omega
theorem z15h (k:Nat){n:Nat}(hn:n<=30000):zbr (k+20) (n:Int)=some (zgf n):=by
 have e1:IntKind.wrap .i64 ((1:Int)+Int.tmod (IntKind.wrap .i64 ((119:Int) - Int.tmod (n:Int) 64)) 64)=((1+zer n:Nat):Int):=by
  rw[Int.tmod_eq_emod_of_nonneg (by omega:0<=(n:Int)),z4k (x:=(119:Int) - _) (by unfold I64;omega),Int.tmod_eq_emod_of_nonneg (by omega),z4k (by unfold I64;omega)];unfold zer;omega
 have hz:zer n<64:=by unfold zer;omega
 have e2:IntKind.wrap .u64 (8*IntKind.wrap .u64 (n:Int))=((8*n:Nat):Int):=by
  show (8*((n:Int) % 18446744073709551616)) % 18446744073709551616=_;omega
 simp only[zbr];rw[e1,zyu _ (by omega) (by simp),Option.bind_some,e2,be_eq k (by omega),Option.bind_some];rw[zj (z3m (by simp[beL];omega))];rw[show (1+zer n - [(128:UInt8)].length)=zer n by simp];rfl
end
end Go.Proofs.YtlhdohlpilippaaDoorLg
set_option linter.all false
namespace Go.Proofs.YtlhdohlpilippaaDoorLg
noncomputable section
open Go Go.Lift Go.Proofs.YtlhdohlpilippaaDoorPx
theorem zvx {α:Type}(l:List α)(d:α){n:Nat}(h:l.length=n):l=(List.range n).map fun i=>l.getD i d:=by
 apply List.ext_getElem?;intro i;rw[List.getElem?_map];by_cases hi:i<n
 . rw[List.getElem?_eq_getElem (by omega),List.getElem?_range hi,Option.map_some,List.getD_eq_getElem?_getD,List.getElem?_eq_getElem (by omega)];rfl
 . rw[List.getElem?_eq_none (by omega),List.getElem?_eq_none (by rw[List.length_range];omega)];rfl
set_option maxRecDepth 100000 in
theorem z11s (k:Nat)(g:Nat->Int)(f:Nat->UInt8):(zbt (k+100) ((List.range 8).map g) ((List.range 64).map f)).map List.length=some 8:=by kernel_rfl
set_option maxRecDepth 100000 in
theorem z11o (k:Nat)(g:Nat->Int):(z8j (k+100) ((List.range 8).map g)).isSome=true:=by kernel_rfl
def st (N:Nat)(h:List Int)(b:List UInt8):List Int:=(zbt N h b).getD []
theorem z15n (k:Nat){h:List Int}{b:List UInt8}(hh:h.length=8)(hb:b.length=64):zbt (k+100) h b=some (st (k+100) h b)/\(st (k+100) h b).length=8:=by
 have:=z11s k (fun i=>h.getD i 0) (fun i=>b.getD i 0);rw[<- zvx h 0 hh,<- zvx b 0 hb] at this;unfold st;cases e:zbt (k+100) h b with
 | none=>rw[e] at this;cases this
 | some y=>rw[e] at this;exact⟨rfl,Option.some.inj this⟩
def z6m (N:Nat):Nat->List Int->List UInt8->List Int
 | 0,h,_=>h
 | j+1,h,s=>z6m N j (st N h (s.take 64)) (s.drop 64)
theorem z8h (k:Nat):∀ (j:Nat) {h:List Int} {s:List UInt8},h.length=8->64*j<=s.length->(z6m (k+100) j h s).length=8
 | 0,h,s,hh,_=>hh
 | j+1,h,s,hh,hs=>z8h k j (z15n k hh (by rw[List.length_take];omega)).2 (by rw[List.length_drop];omega)
theorem zbp (N:Nat):∀ (i j:Nat) {h:List Int} {a b:List UInt8},a.length=64*i->z6m N (i+j) h (a++b)=z6m N j (z6m N i h a) b
 | 0,j,h,a,b,ha=>by
   have:a=[]:=List.length_eq_zero_iff.1 (by omega);subst this;rw[Nat.zero_add];rfl
 | i+1,j,h,a,b,ha=>by
   rw[show i+1+j=(i+j)+1 by omega];simp only[z6m];rw[List.take_append_of_le_length (by omega),List.drop_append_of_le_length (by omega)];exact zbp N i j (by rw[List.length_drop];omega)
theorem zuq (k:Nat){h:List Int}{s:List UInt8}{j:Nat}(hh:h.length=8)(hs:s.length=64*j)(hj:j<k+100)(hj2:j<=100000):z7v (k+100) h s=some (z6m (k+100) j h s):=by
 simp only[z7v,zit];rw[z4w (I:=fun (v:List Int×Int)=>∃ i:Nat,v.2=((64*i:Nat):Int)/\i<=j/\v.1.length=8) (m:=fun v=>j - v.2.toNat / 64)
  (R:=fun v=>some (z6m (k+100) (j - v.2.toNat / 64) v.1 (s.drop v.2.toNat))) ?_ (k+100) (h,0) ⟨0,rfl,by omega,hh⟩ (by simpa using hj)]
 . simp
 rintro⟨h',v⟩ r ⟨i,e,hi,hl⟩ hr;dsimp only at e hl hr ⊢;subst e;rw[Int.toNat_natCast,show 64*i / 64=i by omega] at hr ⊢;simp only[zdf];by_cases hlt:i<j
 . have hw:IntKind.wrap .i64 (((64*i:Nat):Int)+64)=((64*i+64:Nat):Int):=by rw[z4k (by unfold I64;omega)];omega
   have hb:((s.drop (64*i)).take 64).length=64:=by rw[List.length_take,List.length_drop];omega
   rw[zj (z3m (by omega)),hw,zj (z3m (by omega)),zj (z3m (by omega)),Int.toNat_natCast,Int.toNat_natCast,z18i,(z15n k hl hb).1,Option.bind_some,hr _ ⟨i+1,by dsimp only;omega,by omega,(z15n k hl hb).2⟩ (by dsimp only;omega)];dsimp only;rw[Int.toNat_natCast,show (64*i+64) / 64=i+1 by omega,show j - i=(j - (i+1))+1 by omega];simp only[z6m,List.drop_drop]
 . rw[z1a (zaq (by omega)),show j - i=0 by omega];rfl
abbrev first:List Int:=[1779033703,3144134277,1013904242,2773480762,1359893119,2600822924,528734635,1541459225]
abbrev Hsh:Type:=Bool×(List Int×(List UInt8×(Int×Unit)))
def total (n:Nat):Nat:=(n+(zgf n).length) / 64
def zy3 (N:Nat)(h:List Int):List UInt8:=(z8j N h).getD []
theorem zy2 (k:Nat){h:List Int}(hh:h.length=8):z8j (k+100) h=some (zy3 (k+100) h):=by
 have:=z11o k (fun i=>h.getD i 0);rw[<- zvx h 0 hh] at this;unfold zy3;cases e:z8j (k+100) h with
 | none=>rw[e] at this;cases this
 | some y=>rfl
def zxl (N:Nat)(s:List UInt8):List UInt8:=zy3 N (z6m N (total s.length) first (s++zgf s.length))
def zzg (N:Nat)(all:List UInt8)(h:Hsh):Prop:=∃ j:Nat,64*j<=all.length/\h=(true,z6m N j first (all.take (64*j)),all.drop (64*j),(all.length:Int),())
theorem zvf (N:Nat):zzg N [] (true,first,[],0,()):=⟨0,by simp,rfl⟩
theorem z10y (k:Nat){all s:List UInt8}{h:Hsh}(hk:600<=k)(hm:zzg (k+100) all h)(hl:all.length+s.length<=30000):∃ h',z4q (k+100) h s=some ((),h',())/\zzg (k+100) (all++s) h':=by
 obtain⟨j,hj,rfl⟩:=hm;have hd:all.drop (64*j)++s=(all++s).drop (64*j):=by rw[List.drop_append_of_le_length hj]
 simp only[z4q,z95];rw[Bool.not_true,cond_false,zj (z3m (by rw[List.length_drop];omega)),hd];generalize hq:((all++s).drop (64*j)).length / 64=q;have hL:((all++s).drop (64*j)).length=all.length+s.length - 64*j:=by rw[List.length_drop,List.length_append]
 have hw:IntKind.wrap .i64 ((((all++s).drop (64*j)).length:Int) - Int.tmod (((all++s).drop (64*j)).length:Int) 64)=((64*q:Nat):Int):=by
  rw[Int.tmod_eq_emod_of_nonneg (by omega),z4k (by unfold I64;omega)];omega
 have hq2:64*q<=all.length+s.length - 64*j:=by omega
 have hsl:(z6m (k+100) j first (all.take (64*j))).length=8:=z8h k j rfl (by rw[List.length_take];omega);rw[hw,zj (z3m (by omega)),Int.toNat_natCast,zhc,zuq k hsl (by rw[List.length_take];omega) (by omega:q<k+100) (by omega),Option.bind_some,zj (z3m (by omega)),zpc];refine⟨_,rfl,j+q,by rw[List.length_append];omega,?_⟩;have e1:(all++s).take (64*(j+q))=all.take (64*j)++((all++s).drop (64*j)).take (64*q):=by
  rw[Nat.mul_add,List.take_add,List.take_append_of_le_length hj]
 rw[e1,zbp _ j q (by rw[List.length_take];omega),List.drop_drop,List.length_append,show 64*(j+q)=64*j+64*q by omega];have e2:IntKind.wrap .i64 ((all.length:Int)+(s.length:Int))=((all.length+s.length:Nat):Int):=by rw[z4k (by unfold I64;omega)];omega
 rw[e2]
theorem ztk (k:Nat){all:List UInt8}{j:Nat}(hk:600<=k)(hj:64*j<=all.length)(hl:all.length<=30000) :
 z7v (k+100) (z6m (k+100) j first (all.take (64*j))) (all.drop (64*j)++zgf all.length)=some (z6m (k+100) (total all.length) first (all++zgf all.length))/\(z6m (k+100) (total all.length) first (all++zgf all.length)).length=8:=by
 have hwh:=zse all.length;have htl:=z9w all.length;have hz:zer all.length<64:=by unfold zer;omega
 have htot:64*total all.length=all.length+(zgf all.length).length:=by unfold total;omega
 have hsl:(z6m (k+100) j first (all.take (64*j))).length=8:=z8h k j rfl (by rw[List.length_take];omega);have hjt:j<=total all.length:=by omega
 have e:z6m (k+100) (total all.length) first (all++zgf all.length)=z6m (k+100) (total all.length - j) (z6m (k+100) j first (all.take (64*j))) (all.drop (64*j)++zgf all.length):=by
  have:=zbp (k+100) j (total all.length - j) (h:=first) (a:=all.take (64*j)) (b:=all.drop (64*j)++zgf all.length) (by rw[List.length_take];omega);rw[<- List.append_assoc,List.take_append_drop,show j+(total all.length - j)=total all.length by omega] at this;exact this
 constructor
 . rw[e,zuq k (j:=total all.length - j) hsl (by rw[List.length_append,List.length_drop];omega) (by omega) (by omega)]
 . exact z8h k _ rfl (by rw[List.length_append];omega)
theorem z1bb {k n:Nat}(hn:n<=30000):zbr (k+100) (n:Int)=some (zgf n):=z15h (k+80) hn
theorem z15k (k:Nat){all:List UInt8}{h:Hsh}(hk:600<=k)(hm:zzg (k+100) all h)(hl:all.length<=30000):z6n (k+100) h=some (zxl (k+100) all,h,()):=by
 obtain⟨j,hj,rfl⟩:=hm;have hz:zer all.length<64:=by unfold zer;omega
 obtain⟨h1,h2⟩:=ztk k hk hj hl;simp only[z6n,z85,z84];rw[Bool.not_true,cond_false,z1bb hl,Option.bind_some,zj (z3m (by rw[z9w,List.length_drop];omega)),h1,Option.bind_some,zy2 k h2,Option.bind_some];rfl
theorem z1bc (k:Nat){s:List UInt8}(hk:600<=k)(hl:s.length<=30000):zfr (k+100) s=some (zxl (k+100) s):=by
 obtain⟨h',h1,h2⟩:=z10y k (s:=s) hk (zvf _) (by simpa using hl);rw[List.nil_append] at h2;simp only[zfr];rw[h1,Option.bind_some,z15k k hk h2 hl];rfl
theorem z15j (k:Nat){all:List UInt8}{h:Hsh}(hk:600<=k)(hm:zzg (k+100) all h)(hl:all.length<=30000):z6b (k+100) h=some (zxl (k+100) all,h,()):=by
 obtain⟨j,hj,rfl⟩:=hm;have hz:zer all.length<64:=by unfold zer;omega
 obtain⟨h1,h2⟩:=ztk k hk hj hl;simp only[z6b,z92,z91];rw[Bool.not_true,cond_false,z1bb hl,Option.bind_some,zj (z3m (by rw[z9w,List.length_drop];omega)),h1,Option.bind_some,zy2 k h2,Option.bind_some];rfl
end
end Go.Proofs.YtlhdohlpilippaaDoorLg
set_option linter.all false
namespace Go.Proofs.YtlhdohlpilippaaDoorLg
noncomputable section
open Go Go.Lift Go.Proofs.YtlhdohlpilippaaDoorPx
def be4 (x:Int):List UInt8:=z43 [IntKind.wrap .u8 (zaw .u64 (IntKind.wrap .u64 x) 24),IntKind.wrap .u8 (zaw .u64 (IntKind.wrap .u64 x) 16),IntKind.wrap .u8 (zaw .u64 (IntKind.wrap .u64 x) 8),IntKind.wrap .u8 (zaw .u64 (IntKind.wrap .u64 x) 0)]
set_option maxRecDepth 100000 in
theorem tellA (k:Nat)(g:Nat->Int):z8j (k+100) ((List.range 8).map g)=some (((((((([]++be4 (g 0))++be4 (g 1))++be4 (g 2))++be4 (g 3))++be4 (g 4))++be4 (g 5))++be4 (g 6))++be4 (g 7)):=by kernel_rfl
end
end Go.Proofs.YtlhdohlpilippaaDoorLg
set_option linter.all false
namespace Go.Proofs.YtlhdohlpilippaaDoorPx
noncomputable section
open Go Go.Lift
def orX:List UInt8->List UInt8->UInt8
 | x::xs,y::ys=>(x ^^^ y) ||| orX xs ys
 | _,_=>0
theorem or_zero (x y:UInt8):x ||| y=0 ↔ x=0/\y=0:=by
 constructor
 . intro h;have h':x.toNat ||| y.toNat=0:=by rw[<- UInt8.toNat_or,h];rfl
   have:=Nat.or_eq_zero_iff.1 h';exact⟨UInt8.toNat_inj.1 this.1,UInt8.toNat_inj.1 this.2⟩
 . rintro⟨rfl,rfl⟩;rfl
theorem xor_zero (x y:UInt8):x ^^^ y=0 ↔ x=y:=by
 constructor
 . intro h;have e:y=x ^^^ (x ^^^ y):=by rw[<- UInt8.xor_assoc,UInt8.xor_self,UInt8.zero_xor]
   rw[h,UInt8.xor_zero] at e;exact e.symm
 . rintro rfl;exact UInt8.xor_self
theorem zva:∀ a b:List UInt8,a.length=b.length->(orX a b=0 ↔ a=b)
 | [],[],_=>by simp[orX]
 | x::xs,y::ys,h=>by
   simp only[orX,or_zero,xor_zero,zva xs ys (by simpa using h),List.cons.injEq]
 | [],_::_,h=>by simp at h
 | _::_,[],h=>by simp at h
theorem zyx (x y z:UInt8):x ||| y ||| z=x ||| (y ||| z):=UInt8.or_assoc _ _ _
def zpz (a b:List UInt8):List UInt8:=List.zipWith (fun x y=>x ^^^ y) a b
theorem zbl (a b:List UInt8):(zpz a b).length=min a.length b.length:=by simp[zpz]
theorem zpy:∀ a b:List UInt8,zpz (zpz a b) b=a.take (min a.length b.length)
 | [],b=>by simp[zpz]
 | x::xs,[]=>by simp[zpz]
 | x::xs,y::ys=>by
   have:=zpy xs ys;simp only[zpz,List.zipWith_cons_cons] at this ⊢;rw[this,UInt8.xor_assoc,UInt8.xor_self,UInt8.xor_zero];simp[Nat.succ_min_succ]
end
end Go.Proofs.YtlhdohlpilippaaDoorPx
set_option linter.all false
namespace Go.Proofs.YtlhdohlpilippaaDoorLg
noncomputable section
open Go Go.Lift Go.Proofs.YtlhdohlpilippaaDoorPx
theorem z12z (N:Nat){a b:List UInt8}(ha:a.length<=9223372036854775806)(hN:a.length<N):z9c N a b=some (a == b):=by
 simp only[z9c,zf9];by_cases hl:a.length=b.length
 . rw[z1a (by simp[hl]),z4w (I:=fun (v:Int×Int)=>(∃ d:UInt8,v.1=((d.toNat:Nat):Int))/\0<=v.2/\v.2<=((a.length:Nat):Int)) (m:=fun (v:Int×Int)=>a.length - v.2.toNat)
    (R:=fun (v:Int×Int)=>some ((UInt8.ofNat v.1.toNat ||| orX (a.drop v.2.toNat) (b.drop v.2.toNat)) == 0)) ?_ N (0,0) ⟨⟨0,rfl⟩,by omega,by dsimp only;omega⟩ (by simpa using hN)]
   . simp only[Int.toNat_zero,List.drop_zero];have:(UInt8.ofNat 0 ||| orX a b)=orX a b:=UInt8.zero_or;rw[this];congr 1;rw[Bool.eq_iff_iff,beq_iff_eq,zva a b hl,beq_iff_eq]
   rintro⟨x,v⟩ r ⟨⟨d,hd⟩,h0,h1⟩ hr;dsimp only at *;subst hd;obtain⟨i,rfl⟩:=Int.eq_ofNat_of_zero_le h0;simp only[zag,Int.toNat_natCast,UInt8.ofNat_toNat];by_cases hlt:i<a.length
   . have hib:i<b.length:=by omega
     rw[zj (z3m (by omega)),zj (z2b hlt),zj (z2b hib),z13m,or_u8,z2v (by omega),hr _ ⟨⟨_,rfl⟩,by omega,by omega⟩ (by dsimp only;omega),z2k a 0 i hlt,z2k b 0 i hib];simp only[Int.toNat_natCast,UInt8.ofNat_toNat,orX,zyx]
   . have hi:i=a.length:=by omega
     rw[z1a (zaq (by omega)),z6y a (by omega)];have:orX [] (b.drop i)=0:=by unfold orX;rfl
     rw[this,UInt8.or_zero];congr 1;rw[Bool.eq_iff_iff,beq_iff_eq,beq_iff_eq,show (0:Int)=(((0:UInt8).toNat:Nat):Int) from rfl,zw3]
 . rw[zj (by simp;omega)];have:¬ a=b:=fun e=>hl (by rw[e])
   simp[this]
theorem z13n (N:Nat){a b:List UInt8}(ha:a.length<=281474976710656)(hN:a.length<N):zb9 N a b=some (zpz a b):=by
 simp only[zb9,zj2,z167];rw[zj (z3m ⟨by omega,by omega,by omega,by omega⟩)];simp only[Int.toNat_natCast,List.length_replicate];rw[z4w (I:=fun (v:List Int×Int)=>v.1.length=min a.length b.length/\0<=v.2/\v.2<=((min a.length b.length:Nat):Int)) (m:=fun (v:List Int×Int)=>a.length - v.2.toNat)
  (R:=fun (v:List Int×Int)=>some (z43 (v.1.take v.2.toNat)++zpz (a.drop v.2.toNat) (b.drop v.2.toNat))) ?_ N (List.replicate (min a.length b.length) 0,0) ⟨by simp,by omega,by dsimp only;omega⟩ (by simpa using hN)]
 . simp[z43]
 rintro⟨out,v⟩ r ⟨hl,h0,h1⟩ hr;dsimp only at *;obtain⟨i,rfl⟩:=Int.eq_ofNat_of_zero_le h0;simp only[zdn,Int.toNat_natCast];by_cases hlt:i<min a.length b.length
 . have hia:i<a.length:=by omega
   have hib:i<b.length:=by omega
   have hio:i<out.length:=by omega
   rw[zj (z3m (by omega)),zj (z2b hia),zj (z2b hib),zj (z2b hio),zj (z3m hio),z13m,z2v (by omega),hr _ ⟨by simpa using hl,by omega,by omega⟩ (by dsimp only;omega),z2k a 0 i hia,z2k b 0 i hib];simp only[Int.toNat_natCast,zol _ _ _ hio,zq2,zw4,List.append_assoc];rfl
 . have hi:i=min a.length b.length:=by omega
   rw[z1a (zaq (by omega)),List.take_of_length_le (by omega)];have:zpz (a.drop i) (b.drop i)=[]:=by
    apply List.length_eq_zero_iff.1;rw[zbl,List.length_drop,List.length_drop];omega
   rw[this,List.append_nil]
end
end Go.Proofs.YtlhdohlpilippaaDoorLg
set_option linter.all false
set_option maxRecDepth 100000
namespace Go.Proofs.YtlhdohlpilippaaDoorLg
noncomputable section
open Go Go.Lift Go.Proofs.YtlhdohlpilippaaDoorPx
theorem z11p (k:Nat){h:List Int}(hh:h.length=8):(zy3 (k+100) h).length=32:=by
 unfold zy3;rw[zvx h 0 hh,tellA];simp only[Option.getD_some,List.length_append,List.length_nil];rfl
theorem zbo (k:Nat){s:List UInt8}(hk:600<=k)(hl:s.length<=30000):(zxl (k+100) s).length=32:=by
 obtain⟨_,h⟩:=ztk k (all:=s) (j:=0) hk (by omega) hl;exact z11p k h
def zxp (N:Nat)(key:List UInt8):List UInt8:=if 64<key.length then zxl N key else key
def zzr (N:Nat)(key:List UInt8):List UInt8:=zxp N key++List.replicate (64 - (zxp N key).length) 0
def zze (N:Nat)(key:List UInt8)(b:UInt8):List UInt8:=zpz (zzr N key) (List.replicate 64 b)
def zlv (N:Nat)(key text:List UInt8):List UInt8:=zze N key 54++text
def znq (N:Nat)(key text:List UInt8):List UInt8:=zze N key 92++zxl N (zlv N key text)
def zw9 (N:Nat)(key text:List UInt8):List UInt8:=zxl N (znq N key text)
theorem zzs (k:Nat){key:List UInt8}(hk:600<=k)(hl:key.length<=30000):(zxp (k+100) key).length<=64:=by
 unfold zxp;by_cases h:64<key.length
 . rw[if_pos h,zbo k hk hl];omega
 . rw[if_neg h];omega
theorem zj9 (k:Nat){key:List UInt8}(hk:600<=k)(hl:key.length<=30000):(zzr (k+100) key).length=64:=by
 have:=zzs k hk hl;unfold zzr;rw[List.length_append,List.length_replicate];omega
theorem zj5 (k:Nat){key:List UInt8}(b:UInt8)(hk:600<=k)(hl:key.length<=30000):(zze (k+100) key b).length=64:=by
 unfold zze;rw[zbl,zj9 k hk hl,List.length_replicate];rfl
theorem zh4 (k:Nat){key text:List UInt8}(hk:600<=k)(hl:key.length<=30000):(zlv (k+100) key text).length=64+text.length:=by
 unfold zlv;rw[List.length_append,zj5 k 54 hk hl]
theorem zow (k:Nat){key text:List UInt8}(hk:600<=k)(hl:key.length<=30000)(ht:text.length<=29900):(znq (k+100) key text).length=96:=by
 unfold znq;rw[List.length_append,zj5 k 92 hk hl,zbo k hk (by rw[zh4 k hk hl];omega)]
theorem z3h (k:Nat){key text:List UInt8}(hk:600<=k)(hl:key.length<=30000)(ht:text.length<=29900):(zw9 (k+100) key text).length=32 :=
 zbo k hk (by rw[zow k hk hl ht];omega)
theorem z1bi (b:UInt8):zk6 ([b],((64:Int),()))=some (List.replicate 64 b):=by kernel_rfl
theorem zvi (k:Nat){key text:List UInt8}(b:UInt8)(hk:600<=k)(hl:key.length=64)(ht:text.length<=29900) :
 z8v (k+100) key [b] text=some (zxl (k+100) (zpz key (List.replicate 64 b)++text)):=by
 have hx:(zpz key (List.replicate 64 b)).length=64:=by rw[zbl,hl,List.length_replicate];rfl
 unfold z8v;rw[z1bi,Option.bind_some,z13n _ (by omega) (by omega),Option.bind_some];obtain⟨h1,e1,m1⟩:=z10y k (s:=zpz key (List.replicate 64 b)) hk (zvf _) (by rw[hx];simp);rw[List.nil_append] at m1;rw[e1,Option.bind_some];dsimp only;obtain⟨h2,e2,m2⟩:=z10y k (s:=text) hk m1 (by rw[hx];omega);rw[e2,Option.bind_some];dsimp only;rw[z15j k hk m2 (by rw[List.length_append,hx];omega),Option.bind_some]
theorem z13o (k:Nat){key text:List UInt8}(hk:600<=k)(hl:key.length<=30000)(ht:text.length<=29900) :
 zep (k+100) key text=some (zw9 (k+100) key text):=by
 have h1:∀ k0:List UInt8->Option (List UInt8),zcd (k+100) key text k0=k0 (zxp (k+100) key):=by
  intro k0;unfold zcd zxp;by_cases h:64<key.length
  . rw[zj (z3m (by omega)),z1bc k hk hl,Option.bind_some,if_pos h]
  . rw[z1a (zaq (by omega)),if_neg h]
 unfold zep;rw[h1,show (64:Int)=((64:Nat):Int) from rfl,zyu _ (by omega) (zzs k hk hl),Option.bind_some];have h64:=zj9 k hk hl;unfold zzr at h64;rw[zvi k 54 hk h64 ht,Option.bind_some,zvi k 92 hk h64 (by
  have:=zh4 k (text:=text) hk hl;unfold zlv zze zzr at this;rw[zbo k hk (by rw[this];omega)];omega),Option.bind_some]
 rfl
end
end Go.Proofs.YtlhdohlpilippaaDoorLg
set_option linter.all false
set_option maxRecDepth 100000
namespace Go.Proofs.YtlhdohlpilippaaDoorLg
noncomputable section
open Go Go.Lift Go.Proofs.YtlhdohlpilippaaDoorPx
def zpw:List UInt8->Nat->Nat
 | [],n=>n
 | b::l,n=>zpw l (n*256+b.toNat)
theorem zki (b:UInt8):∀ (l:List UInt8) (n:Nat),zpw (l++[b]) n=zpw l n*256+b.toNat
 | [],n=>rfl
 | c::l,n=>zki b l _
theorem zq1 {s:List UInt8}{i:Nat}(h:i<s.length):zpw (s.take (i+1)) 0=zpw (s.take i) 0*256+(s.getD i 0).toNat:=by
 rw[take_succ s 0 i h,zki]
theorem zsc:∀ (i:Nat) (s:List UInt8),i<=s.length->zpw (s.take i) 0<256^i
 | 0,s,_=>by simp[zpw]
 | i+1,s,h=>by
   rw[zq1 (by omega),Nat.pow_succ];have:=zsc i s (by omega);have:=z117 (s.getD i 0);omega
def beN:Nat->Nat->List UInt8
 | 0,_=>[]
 | j+1,n=>beN j (n / 256)++[UInt8.ofNat (n % 256)]
theorem zuh:∀ (j n:Nat),n<256^j->zpw (beN j n) 0=n
 | 0,n,h=>by simp at h;subst h;rfl
 | j+1,n,h=>by
   rw[Nat.pow_succ] at h;have h2:n / 256<256^j:=Nat.div_lt_of_lt_mul (by rw[Nat.mul_comm];exact h);rw[beN,zki,zuh j _ h2,UInt8.toNat_ofNat'];omega
theorem z1h4 (n:Nat)(hn:n<9223372036854775808):be8 n=beN 8 n:=by
 have h:∀ a b:Nat,a % 256=b % 256->UInt8.ofNat a=UInt8.ofNat b:=by
  intro a b e;apply UInt8.toNat_inj.1;rw[UInt8.toNat_ofNat',UInt8.toNat_ofNat'];omega
 have e:=fun i hi=>z1h3 n hn i hi
 have e7:=e 7 (by omega);have e6:=e 6 (by omega);have e5:=e 5 (by omega);have e4:=e 4 (by omega);have e3:=e 3 (by omega);have e2:=e 2 (by omega);have e1:=e 1 (by omega);have e0:=e 0 (by omega);simp only[Nat.reduceMul] at e7 e6 e5 e4 e3 e2 e1 e0;have:be8 n=[UInt8.ofNat (n / 256^7),UInt8.ofNat (n / 256^6),UInt8.ofNat (n / 256^5),UInt8.ofNat (n / 256^4),UInt8.ofNat (n / 256^3),UInt8.ofNat (n / 256^2),UInt8.ofNat (n / 256^1),UInt8.ofNat (n / 256^0)]:=by
  rw[<- e7,<- e6,<- e5,<- e4,<- e3,<- e2,<- e1,<- e0];rfl
 rw[this];simp only[beN,List.nil_append,List.cons_append,List.append_assoc,Nat.div_div_eq_div_mul,Nat.reducePow,Nat.reduceMul];simp only[List.cons.injEq,and_true];refine⟨?_,?_,?_,?_,?_,?_,?_,?_⟩<;>(apply h;omega)
def zvt (s:List UInt8):Option (List UInt8×List UInt8) :=
 if s.length<8 then none else if s.length - 8<zpw (s.take 8) 0 then none else some ((s.drop 8).take (zpw (s.take 8) 0),(s.drop 8).drop (zpw (s.take 8) 0))
theorem ze5 {s a b:List UInt8}(h:zvt s=some (a,b)):b.length<s.length:=by
 unfold zvt at h;by_cases h1:s.length<8
 . rw[if_pos h1] at h;cases h
 rw[if_neg h1] at h;by_cases h2:s.length - 8<zpw (s.take 8) 0
 . rw[if_pos h2] at h;cases h
 rw[if_neg h2] at h;obtain⟨rfl,rfl⟩:=Prod.mk.inj (Option.some.inj h);rw[List.length_drop,List.length_drop];omega
def zcu:Nat->List UInt8->Option (List (List UInt8))
 | 0,s=>if s=[] then some [] else none
 | n+1,s=>if s=[] then some [] else match zvt s with
   | none=>none
   | some (a,b)=>(zcu n b).map (a::·)
def zd2:Nat->List UInt8->List (List UInt8×Bool×Unit)
 | 0,s=>[]
 | n+1,s=>if s=[] then [] else match zvt s with
   | none=>[([],false,())]
   | some (a,b)=>(a,true,())::zd2 n b
theorem zko:∀ (n m:Nat) (s:List UInt8),s.length<=n->s.length<=m->zcu n s=zcu m s
 | 0,0,s,_,_=>rfl
 | 0,m+1,s,h,_=>by
   have:s=[]:=List.length_eq_zero_iff.1 (by omega);subst this;rfl
 | n+1,0,s,_,h=>by
   have:s=[]:=List.length_eq_zero_iff.1 (by omega);subst this;rfl
 | n + 1,m+1,s,h,h'=>by
   unfold zcu;by_cases e:s=[]
   . rw[if_pos e,if_pos e]
   rw[if_neg e,if_neg e];cases hc:zvt s with
   | none=>rfl
   | some p =>
     obtain⟨a,b⟩:=p;have:=ze5 hc;dsimp only;rw[zko n m b (by omega) (by omega)]
theorem zlu:∀ (n m:Nat) (s:List UInt8),s.length<=n->s.length<=m->zd2 n s=zd2 m s
 | 0,0,s,_,_=>rfl
 | 0,m+1,s,h,_=>by
   have:s=[]:=List.length_eq_zero_iff.1 (by omega);subst this;rfl
 | n+1,0,s,_,h=>by
   have:s=[]:=List.length_eq_zero_iff.1 (by omega);subst this;rfl
 | n + 1,m+1,s,h,h'=>by
   unfold zd2;by_cases e:s=[]
   . rw[if_pos e,if_pos e]
   rw[if_neg e,if_neg e];cases hc:zvt s with
   | none=>rfl
   | some p =>
     obtain⟨a,b⟩:=p;have:=ze5 hc;dsimp only;rw[zlu n m b (by omega) (by omega)]
abbrev zgj (s:List UInt8):Option (List (List UInt8)):=zcu s.length s
theorem zsh {s:List UInt8}(h:s≠[]):zgj s=match zvt s with
 | none=>none
 | some (a,b)=>(zgj b).map (a::·):=by
 have hp:0<s.length:=List.length_pos_iff.2 h;unfold zgj;obtain⟨n,hn⟩:∃ n,s.length=n+1:=⟨s.length - 1,by omega⟩
 rw[hn,zcu,if_neg h];cases hc:zvt s with
 | none=>rfl
 | some p =>
   obtain⟨a,b⟩:=p;have:=ze5 hc;dsimp only;rw[zko n b.length b (by omega) (by omega)]
theorem z6i (n:Nat):(be8 n).length=8:=rfl
theorem zkn:∀ (l:List (List UInt8)),(∀ p∈l,p.length<9223372036854775808)->zgj (z1n l)=some l
 | [],_=>rfl
 | p :: l,h=>by
   have hp:=h p (by simp);have hne:z1n (p::l)≠[]:=by
    intro e;have:=congrArg List.length e;rw[z9n,List.length_append,z6i] at this;simp at this
   rw[zsh hne];have ht:(z1n (p::l)).take 8=beN 8 p.length:=by
    rw[z9n,List.take_append_of_le_length (by rw[z6i];omega),List.take_of_length_le (by rw[z6i];omega),z1h4 _ hp]
   have hd:(z1n (p::l)).drop 8=p++z1n l:=by
    rw[z9n,List.drop_append_of_le_length (by rw[z6i];omega),List.drop_of_length_le (by rw[z6i];omega)];rfl
   have hv:zpw ((z1n (p::l)).take 8) 0=p.length:=by rw[ht];exact zuh 8 _ (by omega)
   have hl:(z1n (p::l)).length=8+(p.length+(z1n l).length):=by
    rw[z9n,List.length_append,List.length_append,z6i]
   have hc:zvt (z1n (p::l))=some (p,z1n l):=by
    unfold zvt;rw[hv,hd,if_neg (by omega),if_neg (by omega)];simp
   rw[hc];dsimp only;rw[zkn l (fun q hq=>h q (by simp[hq]))];rfl
end
end Go.Proofs.YtlhdohlpilippaaDoorLg
set_option linter.all false
set_option maxRecDepth 100000
namespace Go.Proofs.YtlhdohlpilippaaDoorLg
noncomputable section
open Go Go.Lift Go.Proofs.YtlhdohlpilippaaDoorPx
theorem zsm (N:Nat) {a b:List UInt8} (ha:a.length<=100000) (hN:a.length<N):z9l N a b=some (decide (a.length=32) && (a == b)):=by
 unfold z9l;by_cases h1:a.length=32
 . rw[zj (by simp[h1])];by_cases h2:b.length=32
   . rw[zj (by simp[h2]),z12z _ (by omega) hN,Option.bind_some,decide_eq_true h1,Bool.true_and]
   . have hne:(a == b)=false:=by
      rw[beq_eq_false_iff_ne];intro e;subst e;exact h2 h1
     rw[z1a (by rw[beq_eq_false_iff_ne];omega),hne,Bool.and_false]
 . rw[z1a (by rw[beq_eq_false_iff_ne];omega),decide_eq_false h1,Bool.false_and]
theorem z14a (k:Nat){l:List (List UInt8)}(hl:l.length<=50)(hb:(z1n l).length<=70368744177664):z6g (k+100) l=some (z1n l) :=
 z12x (k+91) l (by omega) (by omega) hb
theorem z2e:∀ l:List (List UInt8),(z1n l).length=8*l.length+l.flatten.length
 | []=>rfl
 | p::l=>by
   rw[z9n,List.length_append,List.length_append,z6i,z2e l,List.flatten_cons,List.length_append,List.length_cons];omega
theorem zbz (k:Nat){key:List UInt8}{l:List (List UInt8)}(hk:600<=k)(hl:key.length<=30000)(h1:l.length<=50)(h2:(z1n l).length<=29900) :
 z27 (k+100) key l=some (zw9 (k+100) key (z1n l)):=by
 unfold z27;rw[z14a k h1 (by omega),Option.bind_some,z13o k hk hl h2];rfl
end
end Go.Proofs.YtlhdohlpilippaaDoorLg
set_option linter.all false
set_option maxRecDepth 100000
namespace Go.Proofs.YtlhdohlpilippaaDoorLg
noncomputable section
open Go Go.Lift Go.Proofs.YtlhdohlpilippaaDoorPx
theorem zwp (k:Nat)(n:Int):z54 (k+9) n=some (z43 (([56,48,40,32,24,16,8,0]:List Int).map fun j=>IntKind.wrap .u8 (zaw .i64 n j))):=by kernel_rfl
theorem zz3 (k:Nat){n:Nat}(hn:n<9223372036854775808):z54 (k+9) (n:Int)=some (be8 n):=by
 rw[zwp];have h1:IntKind.wrap .u64 ((n:Nat):Int)=(n:Int):=by
  simp[IntKind.wrap,IntKind.signed,IntKind.bits];omega
 have h2:∀ j,zaw .i64 (n:Int) j=zaw .u64 (n:Int) j:=fun j=>rfl
 unfold be8;simp only[h1,h2]
def z1bg (nonce:List UInt8)(i:Nat):List (List UInt8):=[[115,116,114,101,97,109],nonce,be8 i]
def zjm (N:Nat)(key nonce:List UInt8)(i:Nat):List UInt8:=zw9 N key (z1n (z1bg nonce i))
theorem zl3 (nonce:List UInt8)(i:Nat):(z1n (z1bg nonce i)).length=38+nonce.length:=by
 rw[z2e];simp[z1bg,z6i];omega
theorem zpr (k:Nat){key nonce:List UInt8}(i:Nat)(hk:600<=k)(hl:key.length<=30000)(hn:nonce.length<=1000):(zjm (k+100) key nonce i).length=32 :=
 z3h k hk hl (by rw[zl3];omega)
theorem z138 (k:Nat){key nonce:List UInt8}{i:Nat}(hk:600<=k)(hl:key.length<=30000)(hn:nonce.length<=1000)(hi:i<9223372036854775808):z7s (k+100) key nonce (i:Int)=some (zjm (k+100) key nonce i):=by
 unfold z7s;rw[z1a (zaq (by omega)),show z54 (k+100) (i:Int)=some (be8 i) from zz3 (k+91) hi,Option.bind_some];rw[show z27 (k+100) key ([([(115:UInt8),(116:UInt8),(114:UInt8),(101:UInt8),(97:UInt8),(109:UInt8)]:List UInt8),nonce,be8 i]:List (List UInt8))=_ from zbz k (l:=z1bg nonce i) hk hl (by simp[z1bg]) (by rw[zl3];omega)];rfl
def zo5 (N:Nat)(key nonce:List UInt8)(m:Nat):List UInt8:=((List.range m).map (zjm N key nonce)).flatten
def zw8 (N:Nat)(key nonce:List UInt8)(n:Nat):List UInt8:=(zo5 N key nonce ((n+31) / 32)).take n
theorem ztf (N:Nat)(key nonce:List UInt8)(m:Nat):zo5 N key nonce (m+1)=zo5 N key nonce m++zjm N key nonce m:=by
 unfold zo5;rw[List.range_succ,List.map_append,List.flatten_append];simp
theorem zcj (k:Nat){key nonce:List UInt8}(hk:600<=k)(hl:key.length<=30000)(hn:nonce.length<=1000):∀ m,(zo5 (k+100) key nonce m).length=32*m
 | 0=>rfl
 | m+1=>by rw[ztf,List.length_append,zcj k hk hl hn m,zpr k m hk hl hn];omega
theorem zis (k:Nat){key nonce:List UInt8}(n:Nat)(hk:600<=k)(hl:key.length<=30000)(hn:nonce.length<=1000):(zw8 (k+100) key nonce n).length=n:=by
 unfold zw8;rw[List.length_take,zcj k hk hl hn];omega
theorem z10u (k:Nat){key nonce:List UInt8}{n:Nat}(hk:600<=k)(hl:key.length<=30000)(hn:nonce.length<=1000)(h:n<=4096):z5r (k+100) (n:Int) key nonce=some ((List.range ((n+31) / 32)).map fun i=>(zjm (k+100) key nonce i,())):=by
 have hq:IntKind.wrap .i64 (Int.tdiv (IntKind.wrap .i64 ((IntKind.wrap .i64 ((n:Int)+32)) - 1)) 32)=(((n+31) / 32:Nat):Int):=by
  rw[z4k (x:=(n:Int)+32) (by unfold I64;omega),z4k (x:=(n:Int)+32 - 1) (by unfold I64;omega),show (n:Int)+32 - 1=((n+31:Nat):Int) by omega];rw[show Int.tdiv ((n+31:Nat):Int) 32=(((n+31) / 32:Nat):Int) from rfl,z4k (by unfold I64;omega)]
 unfold z5r zb3;rw[hq];generalize hm:(n+31) / 32=m;have hm2:m<=200:=by omega
 have main:=z4w (step:=fun (v:Int) r=>z55 (k+100) key nonce (m:Int) v (fun x10=>r x10) (some []) (some [])) (I:=fun v=>∃ i:Nat,i<=m/\v=(i:Int)) (m:=fun v=>m - v.toNat) (R:=fun v=>some ((List.range' v.toNat (m - v.toNat)).map fun i=>(zjm (k+100) key nonce i,()))) ?_ (k+100) 0 ⟨0,by omega,rfl⟩ (by first|omega|(dsimp only;omega))
 . refine main.trans ?_;try dsimp only
   rw[show (0:Int).toNat=0 from rfl,Nat.sub_zero,List.range_eq_range']
 rintro v r ⟨i,hi,rfl⟩ hr;try dsimp only
 rw[Int.toNat_natCast] at hr ⊢;unfold z55;by_cases hlt:i<m
 . rw[zj (z3m (by omega)),z138 k hk hl hn (by omega),Option.bind_some,z2v (by omega)];have h2:=hr ((i+1:Nat):Int) ⟨i+1,by omega,rfl⟩ (by first|omega|(dsimp only;omega));try dsimp only
   rw[h2,zbh,Int.toNat_natCast,show m - i=(m - (i+1))+1 by omega,List.range'_succ];rfl
 . rw[z1a (zaq (by omega)),show m - i=0 by omega];rfl
theorem foldB {N:Nat}(ys:List (List UInt8×Unit))(k0:Unit×(List Int×Unit)->Option (List UInt8))(h:((ys.map (·.1)).flatten).length<=70368744177664) :
 zbe (fun (y:(List UInt8×Unit)) (v:(Unit×((List Int)×Unit))) r=>(z17 N v y.1).bind fun y1=>r y1.2.1) k0 ys ((),([],()))=k0 ((),(z4p (ys.map (·.1)).flatten,())):=by
 rw[zka (fun (v:Unit×(List Int×Unit)) (ys:List (List UInt8×Unit))=>v.2.1.length+((ys.map (·.1)).flatten).length<=70368744177664) (fun v y=>((),(v.2.1++z4p y.1,()))) (by
  rintro y ys ⟨u,xs,u'⟩ r hI;cases u;cases u';simp only[List.map_cons,List.flatten_cons,List.length_append] at hI;refine⟨?_,by simp only[List.length_append,Go.Proofs.YtlhdohlpilippaaDoorPx.ofStr_length];omega⟩;unfold z17;rw[zj (decide_eq_true (by rw[Go.Proofs.YtlhdohlpilippaaDoorPx.ofStr_length];dsimp only;omega)),Option.bind_some]) _ _ (by simpa using h)]
 have hf:=zvn ys [];have h0:z4p ([]:List UInt8)=[]:=rfl;rw[h0] at hf;rw[hf];rfl
theorem z1bd (s:List UInt8)(h:s.length<=70368744177664):zsg (((),(z4p s,())),())=some (s,(((),((),())),())):=by
 unfold zsg;dsimp only;rw[zj (by
  rw[Bool.and_eq_true];refine⟨zqu _,decide_eq_true ?_⟩;rw[Go.Proofs.YtlhdohlpilippaaDoorPx.ofStr_length];exact Nat.le_trans h (by decide))]
 rw[Go.Proofs.YtlhdohlpilippaaDoorPx.toStr_ofStr]
theorem z15g (k:Nat){key nonce:List UInt8}{n:Nat}(hk:600<=k)(hl:key.length<=30000)(hn:nonce.length<=1000)(h:n<=4096):z90 (k+100) key nonce (n:Int)=some (zw8 (k+100) key nonce n):=by
 unfold z90;by_cases h0:n<1
 . rw[zj (z3m (by omega)),show n=0 by omega];rfl
 rw[z1a (zaq (by omega)),if_neg (by omega)];unfold zf4 z61 zab;rw[z10u k hk hl hn h,Option.bind_some];have hfl:=zcj k (key:=key) (nonce:=nonce) hk hl hn ((n+31) / 32);have hmap:((List.range ((n+31) / 32)).map fun i=>(zjm (k+100) key nonce i,())).map (·.1)=(List.range ((n+31) / 32)).map (zjm (k+100) key nonce):=by
  rw[List.map_map];rfl
 unfold zo5 at hfl;rw[foldB (N:=k+100) _ _ (by rw[hmap,hfl];omega),hmap];dsimp only;rw[z1bd _ (by rw[hfl];omega),Option.bind_some];rw[zj (z3m (by rw[hfl];omega)),Int.toNat_natCast,zhc];rfl
theorem z13x (k:Nat){key nonce text:List UInt8}(hk:600<=k)(hl:key.length<=30000)(hn:nonce.length<=1000)(h:text.length<=4096)(hkt:text.length<k):z8t (k+100) key nonce text=some (zpz text (zw8 (k+100) key nonce text.length)):=by
 unfold z8t;rw[z1a (zaq (by omega)),z15g k hk hl hn h,Option.bind_some,z13n _ (by omega) (by omega)];rfl
end
end Go.Proofs.YtlhdohlpilippaaDoorLg
set_option linter.all false
set_option maxRecDepth 100000
namespace Go.Proofs.YtlhdohlpilippaaDoorLg
noncomputable section
open Go Go.Lift Go.Proofs.YtlhdohlpilippaaDoorPx
def zb0 (N:Nat)(key s:List UInt8):List (List UInt8):=[zlv N key s,znq N key s]
def zzy (N:Nat)(key:List UInt8):List UInt8:=zw9 N key (z1n [[104,105,100,101]])
def tagK (N:Nat)(key:List UInt8):List UInt8:=zw9 N key (z1n [[116,97,103]])
def zrx (N:Nat)(key body:List UInt8):List UInt8:=zw9 N (tagK N key) body
def ze2 (N:Nat)(key nonce text:List UInt8):List UInt8:=zpz text (zw8 N (zzy N key) nonce text.length)
def zin (N:Nat)(key nonce text:List UInt8):List UInt8:=nonce++ze2 N key nonce text
def z7e (N:Nat)(key nonce text:List UInt8):List UInt8:=zin N key nonce text++zrx N key (zin N key nonce text)
theorem zr6:(z1n [[104,105,100,101]]).length=12:=by rw[z2e];rfl
theorem zuo:(z1n [[116,97,103]]).length=11:=by rw[z2e];rfl
theorem za5 (k:Nat){key:List UInt8}(hk:600<=k)(hl:key.length<=30000):(zzy (k+100) key).length=32:=z3h k hk hl (by rw[zr6];omega)
theorem zkl (k:Nat){key:List UInt8}(hk:600<=k)(hl:key.length<=30000):(tagK (k+100) key).length=32:=z3h k hk hl (by rw[zuo];omega)
theorem zhl (k:Nat){key body:List UInt8}(hk:600<=k)(hl:key.length<=30000)(hb:body.length<=29900):(zrx (k+100) key body).length=32:=z3h k hk (by rw[zkl k hk hl];omega) hb
theorem z8p (k:Nat){key nonce text:List UInt8}(hk:600<=k)(hl:key.length<=30000)(hn:nonce.length<=1000):(ze2 (k+100) key nonce text).length=text.length:=by
 unfold ze2;rw[zbl,zis k _ hk (by rw[za5 k hk hl];omega) hn,Nat.min_self]
theorem ztc (k:Nat){key nonce text:List UInt8}(hk:600<=k)(hl:key.length<=30000)(hn:nonce.length<=1000):ze2 (k+100) key nonce (ze2 (k+100) key nonce text)=text:=by
 have h:=z8p k (text:=text) hk hl hn;have ht:=zis k (key:=zzy (k+100) key) (nonce:=nonce) text.length hk (by rw[za5 k hk hl];omega) hn;show zpz (ze2 (k+100) key nonce text) (zw8 (k+100) (zzy (k+100) key) nonce (ze2 (k+100) key nonce text).length)=text;rw[h];unfold ze2;rw[zpy,ht,Nat.min_self,List.take_length]
theorem za8 (k:Nat){key nonce text:List UInt8}(hk:600<=k)(hl:key.length<=30000)(hn:nonce.length=16):(zin (k+100) key nonce text).length=16+text.length:=by
 unfold zin;rw[List.length_append,z8p k hk hl (by omega),hn]
theorem z7w (k:Nat){key nonce text:List UInt8}(hk:600<=k)(hl:key.length<=30000)(hn:nonce.length=16)(ht:text.length<=4096):(z7e (k+100) key nonce text).length=48+text.length:=by
 unfold z7e;rw[List.length_append,za8 k hk hl hn,zhl k hk hl (by rw[za8 k hk hl hn];omega)];omega
theorem zo1 (k:Nat){key:List UInt8}(hk:600<=k)(hl:key.length<=30000):z7n (k+100) key=some (zzy (k+100) key):=by
 unfold z7n;rw[zbz k hk hl (by simp) (by rw[zr6];omega)];rfl
theorem zrw (k:Nat){key body:List UInt8}(hk:600<=k)(hl:key.length<=30000)(hb:body.length<=29900):zgb (k+100) key body=some (zrx (k+100) key body):=by
 unfold zgb;rw[zbz k hk hl (by simp) (by rw[zuo];omega),Option.bind_some,z13o k hk (by have:=zkl k hk hl;unfold tagK at this;rw[this];omega) hb];rfl
theorem zyg (k:Nat){key nonce text:List UInt8}(hk:4400<=k)(hl:key.length<=30000)(hn:nonce.length=16)(ht:text.length<=4096):zco (k+100) key nonce text=some (z7e (k+100) key nonce text,0,()):=by
 have h1:=z8p k (key:=key) (nonce:=nonce) (text:=text) (by omega) hl (by omega);have h2:=za8 k (key:=key) (nonce:=nonce) (text:=text) (by omega) hl hn;have h3:=zhl k (key:=key) (body:=zin (k+100) key nonce text) (by omega) hl (by omega);unfold zco;rw[z1a (by simp[hn]),z1a (zaq (by omega)),zo1 k (by omega) hl,Option.bind_some,z13x k (by omega) (by rw[za5 k (by omega) hl];omega) (by omega) ht (by omega),Option.bind_some];show cond (decide (nonce.length+(ze2 (k+100) key nonce text).length<=9223372036854775807)) ((zgb (k+100) key (zin (k+100) key nonce text)).bind fun y2=>cond (decide ((zin (k+100) key nonce text).length+y2.length<=9223372036854775807)) (some ((zin (k+100) key nonce text)++y2,((0:Int),()))) none) none=_;rw[zj (z3m (by omega)),zrw k (by omega) hl (by omega),Option.bind_some,zj (z3m (by omega))];rfl
def z113 (N:Nat)(key s:List UInt8):Bool:=s.drop (s.length - 32) == zrx N key (s.take (s.length - 32))
def zwo (N:Nat)(key s:List UInt8):List UInt8:=ze2 N key (s.take 16) ((s.take (s.length - 32)).drop 16)
theorem wlen {s:List UInt8}(h:48<=s.length)(h2:s.length<=5000):IntKind.wrap .i64 ((s.length:Int) - 32)=((s.length - 32:Nat):Int):=by
 rw[z4k (by unfold I64;omega)];omega
theorem z133 (k:Nat){key s:List UInt8}(hk:4400<=k)(hl:key.length<=30000)(h1:48<=s.length)(h2:s.length<=4144):z60 (k+100) key s=some (cond (z113 (k+100) key s) 0 8):=by
 have hd:(s.drop (s.length - 32)).length=32:=by rw[List.length_drop];omega
 unfold z60;rw[z1a (zaq (by omega)),z1a (zaq (by omega)),wlen h1 (by omega),zj (z3m (by omega)),zj (z3m (by omega)),Int.toNat_natCast,zhc,zrw k (by omega) hl (by rw[List.length_take];omega),Option.bind_some,zpc,zsm _ (by omega) (by omega),Option.bind_some,hd];show cond (!(decide ((32:Nat)=32) && z113 (k+100) key s)) (some 8) (some 0)=_;cases z113 (k+100) key s<;>rfl
theorem zsw (k:Nat){key s:List UInt8}(hk:4400<=k)(hl:key.length<=30000)(h1:48<=s.length)(h2:s.length<=4144):z64 (k+100) key s=some (cond (z113 (k+100) key s) (zwo (k+100) key s,0,()) ([],8,())):=by
 unfold z64;rw[z133 k hk hl h1 (by omega),Option.bind_some];cases hf:z113 (k+100) key s with
 | false=>rfl
 | true =>
   have hm:(cut s 16 (s.length - 32)).length<=4096:=by unfold cut;rw[List.length_drop,List.length_take];omega
   unfold zbk;rw[show cond true (0:Int) 8=0 from rfl,zj (by rfl),zo1 k (by omega) hl,Option.bind_some];have hn:zeb (k+100) s=some (s.take 16):=by
    unfold zeb;rw[z1a (zaq (by omega)),zj (z3m (by omega)),zhc]
   rw[hn,Option.bind_some,wlen h1 (by omega),zj (z3m (by omega)),zj (z3m (by omega)),Int.toNat_natCast,z13x k (by omega) (by rw[za5 k (by omega) hl];omega) (by rw[List.length_take];omega) hm (by omega),Option.bind_some,Option.bind_some];rfl
theorem zqt (k:Nat){key s:List UInt8}(hk:600<=k)(hl:key.length<=30000)(h1:48<=s.length):(zwo (k+100) key s).length=s.length - 48:=by
 unfold zwo;rw[z8p k hk hl (by rw[List.length_take];omega),List.length_drop,List.length_take];omega
end
end Go.Proofs.YtlhdohlpilippaaDoorLg
set_option linter.all false
set_option maxRecDepth 100000
namespace Go.Proofs.YtlhdohlpilippaaDoorLg
noncomputable section
open Go Go.Lift Go.Proofs.YtlhdohlpilippaaDoorPx
abbrev Lk:Type:=List UInt8×List UInt8×Unit
abbrev Tk:Type:=List UInt8×List Lk×List UInt8×Unit
def zfz (l:Lk):List (List UInt8):=cond (l.2.1 == ([]:List UInt8)) [[102,105,114,115,116],l.1] [[116,104,105,114,100],l.2.1,l.1]
def z6o (id:List UInt8):List (List UInt8):=[[114,111,111,116],id]
def zg0 (N:Nat)(t:List UInt8)(l:Lk):List UInt8:=zw9 N t (z1n (zfz l))
def z4d (N:Nat)(key id:List UInt8):List UInt8:=zw9 N key (z1n (z6o id))
def zan (N:Nat)(t:List UInt8)(ls:List Lk):List UInt8:=ls.foldl (zg0 N) t
def zaa (N:Nat):List UInt8->List Lk->List (List UInt8)
 | t,[]=>[t]
 | t,l::ls=>t::zaa N (zg0 N t l) ls
def zd4 (l:Lk):Prop:=l.1.length<=4200/\l.2.1.length<=4200
theorem zj0 {l:Lk}(h:zd4 l):(z1n (zfz l)).length<=8500/\(zfz l).length<=3:=by
 unfold zd4 at h;unfold zfz;cases l.2.1 == ([]:List UInt8) with
 | true=>rw[cond_true,z2e];simp;omega
 | false=>rw[cond_false,z2e];simp;omega
theorem zbx {id:List UInt8}:(z1n (z6o id)).length=20+id.length:=by
 rw[z2e];simp[z6o];omega
theorem z6a (N:Nat):∀ (ls:List Lk) (t:List UInt8),(zaa N t ls).length=ls.length+1
 | [],t=>rfl
 | l::ls,t=>by rw[zaa,List.length_cons,z6a N ls,List.length_cons]
theorem zne (N:Nat):∀ (ls:List Lk) (t:List UInt8),(zaa N t ls).getD ls.length []=zan N t ls
 | [],t=>rfl
 | l::ls,t=>by
   show (zaa N (zg0 N t l) ls).getD ls.length []=_;rw[zne N ls];rfl
theorem z4u (k:Nat){t:List UInt8}{l:Lk}(hk:600<=k)(ht:t.length<=30000)(hl:zd4 l):(zg0 (k+100) t l).length=32:=by
 have:=zj0 hl;exact z3h k hk ht (by omega)
theorem z7z (k:Nat)(hk:600<=k):∀ (ls:List Lk) {t:List UInt8},t.length=32->(∀ l∈ls,zd4 l)->(zan (k+100) t ls).length=32
 | [],t,ht,_=>ht
 | l::ls,t,ht,h=>z7z k hk ls (z4u k hk (by omega) (h l (by simp))) (fun x hx=>h x (by simp[hx]))
theorem zzn (N:Nat)(t:List UInt8):zan N t []=t:=rfl
theorem zny (N:Nat)(t:List UInt8)(l:Lk)(ls:List Lk):zan N t (l::ls)=zan N (zg0 N t l) ls:=rfl
theorem zwu (N:Nat)(t:List UInt8)(ls:List Lk)(l:Lk):zan N t (ls++[l])=zg0 N (zan N t ls) l:=by
 unfold zan;rw[List.foldl_append];rfl
theorem zsr (k:Nat){key id:List UInt8}(hk:600<=k)(hl:key.length<=30000)(hi:id.length<=8000):z4j (k+100) key id=some (z4d (k+100) key id):=by
 unfold z4j;rw[show z27 (k+100) key [[114,111,111,116],id]=some (z4d (k+100) key id) from zbz k (l:=z6o id) hk hl (by simp[z6o]) (by rw[zbx];omega)];rfl
theorem zz7 (k:Nat){t:List UInt8}{l:Lk}(hk:600<=k)(ht:t.length<=30000)(hl:zd4 l):z4h (k+100) t l=some (zg0 (k+100) t l):=by
 have hp:=zj0 hl;unfold z4h;have h:=zbz k (key:=t) (l:=zfz l) hk ht (by omega) (by omega);unfold zg0;unfold zfz at h ⊢;cases hc:l.2.1 == ([]:List UInt8) with
 | true=>rw[hc,cond_true] at h;rw[cond_true,cond_true,h];rfl
 | false=>rw[hc,cond_false] at h;rw[cond_false,cond_false,h];rfl
theorem z13e (k:Nat){t:List UInt8}{ls:List Lk}(hk:600<=k)(ht:t.length=32)(hn:ls.length<=500)(hl:∀ l∈ls,zd4 l):z82 (k+100) t ls ()=some ((zaa (k+100) t ls).map fun x=>(x,())):=by
 have key:∀ (d i:Nat) (u:List UInt8),i+d=ls.length->u.length=32->∀ n,d<n →
  iter (fun (v:List UInt8×Int) r=>z4z (k+100) () ls ((ls.length:Nat):Int) v.1 v.2 (fun t x15=>r (t,x15)) (some []) (some [])) n (u,(i:Int))=some ((zaa (k+100) u (ls.drop i)).tail.map fun x=>(x,())):=by
  intro d
  induction d with
  | zero =>
    intro i u hi hu n hn;obtain⟨n,rfl⟩:∃ m,n=m+1:=⟨n - 1,by omega⟩
    simp only[iter];unfold z4z;rw[z1a (zaq (by omega)),z6y ls (by omega)];rfl
  | succ d ih =>
    intro i u hi hu n hn;obtain⟨n,rfl⟩:∃ m,n=m+1:=⟨n - 1,by omega⟩
    have hlt:i<ls.length:=by omega
    have hs:=hl _ (z12u ls ([],[],()) i hlt);have h2:=ih (i+1) (zg0 (k+100) u (ls.getD i ([],[],()))) (by omega) (z4u k hk (by omega) hs) n (by omega);simp only[iter];unfold z4z at h2 ⊢;rw[zj (z3m (by omega)),zj (z2b hlt),Int.toNat_natCast,zz7 k hk (by omega) hs,Option.bind_some,z2v (by omega)];dsimp only;rw[h2,zbh,z2k ls ([],[],()) i hlt];cases hd:ls.drop (i+1)<;>rfl
 unfold z82 ze8;rw[show (0:Int)=((0:Nat):Int) from rfl,key ls.length 0 t (by omega) ht (k+100) (by omega),zbh,List.drop_zero];cases ls<;>rfl
theorem z15i (k:Nat){key:List UInt8}{t:Tk}(hk:600<=k)(hl:key.length<=30000)(hi:t.1.length<=8000)(hn:t.2.1.length<=100)(hs:∀ l∈t.2.1,zd4 l):zbi (k+100) key t=some (zaa (k+100) (z4d (k+100) key t.1) t.2.1):=by
 have hr:(z4d (k+100) key t.1).length=32:=z3h k (key:=key) (text:=z1n (z6o t.1)) hk hl (by rw[zbx];omega);have hw:IntKind.wrap .i64 ((1:Int)+((t.2.1.length:Nat):Int))=((1+t.2.1.length:Nat):Int):=by rw[z4k (by unfold I64;omega)];omega
 unfold zbi;rw[hw,zj (z3m ⟨by omega,by omega,by omega,by omega⟩),zsr k hk hl hi,Option.bind_some];unfold zhf z71;dsimp only;rw[z13e k hk hr (by omega) hs,Option.bind_some];rw[zka (fun (v:List (List UInt8)) (ys:List (List UInt8×Unit))=>v.length+ys.length<=1000) (fun v y=>v++[y.1]) (by
  intro y ys v r hI;rw[List.length_cons] at hI;refine⟨?_,by rw[List.length_append,List.length_singleton];omega⟩;unfold zcl;rw[zj (z3m (by omega))]) _ _ (by rw[List.length_map,z6a,List.length_nil];omega)]
 have:∀ (ys:List (List UInt8)) (a:List (List UInt8)),(ys.map fun x=>(x,())).foldl (fun v (y:List UInt8×Unit)=>v++[y.1]) a=a++ys:=by
  intro ys
  induction ys with
  | nil=>intro a;simp
  | cons y ys ih=>intro a;rw[List.map_cons,List.foldl_cons,ih];simp
 rw[this];rfl
def zh0 (N:Nat):List UInt8->List Lk->List (List UInt8)
 | _,[]=>[]
 | t,l::ls=>zb0 N t (z1n (zfz l))++zh0 N (zg0 N t l) ls
def zq5 (N:Nat)(key id:List UInt8)(ls:List Lk):List (List UInt8):=zb0 N key (z1n (z6o id))++zh0 N (z4d N key id) ls
theorem z88 (N:Nat):∀ (ls:List Lk) (t:List UInt8),(zh0 N t ls).length=2*ls.length
 | [],t=>rfl
 | l::ls,t=>by rw[zh0,List.length_append,z88 N ls,List.length_cons];simp[zb0];omega
def Clashes (N:Nat)(A B:List (List UInt8)):Prop:=∃ p∈A,∃ q∈B,p≠q/\zxl N p=zxl N q
theorem Clashes.mono {N:Nat}{A B A' B':List (List UInt8)}(hA:∀ p∈A,p∈A')(hB:∀ p∈B,p∈B'):Clashes N A B->Clashes N A' B'
 | ⟨p,hp,q,hq,h⟩=>⟨p,hA p hp,q,hB q hq,h⟩
end
end Go.Proofs.YtlhdohlpilippaaDoorLg
set_option linter.all false
set_option maxRecDepth 100000
namespace Go.Proofs.YtlhdohlpilippaaDoorLg
noncomputable section
open Go Go.Lift Go.Proofs.YtlhdohlpilippaaDoorPx
theorem zpf (N:Nat){t:Tk}(h:t.2.1.length<=1000):z4y N t=some t:=by
 obtain⟨i,l,g,u⟩:=t;cases u;unfold z4y z8w;rw[show decide (List.length (i,l,g,()).2.1*32<=140737488355328)=true from decide_eq_true (by simp only at h ⊢;omega)];rfl
def zgd (N:Nat)(t:Tk)(l:Lk):Tk:=(t.1,t.2.1++[l],zg0 N t.2.2.1 l,())
def z1s:Tk:=([],[],[],())
def z38 (N:Nat)(t:List UInt8):List UInt8:=zw9 N t (z1n [[115,101,97,108]])
def zps (N:Nat)(t d:List UInt8):List UInt8:=zw9 N t (z1n [[98,105,110,100],d])
theorem zrq (k:Nat){t:List UInt8}{l:Lk}(hk:600<=k)(ht:t.length<=30000)(hl:zd4 l):zbj (k+100) t l=some (zg0 (k+100) t l):=by
 rw[zbj,zz7 k hk ht hl];rfl
theorem zqf:(z1n [[115,101,97,108]]).length=12:=by rw[z2e];rfl
theorem zs0 (d:List UInt8):(z1n [[98,105,110,100],d]).length=20+d.length:=by
 rw[z2e];simp;omega
theorem z5t (k:Nat){t:List UInt8}(hk:600<=k)(ht:t.length<=30000):(z38 (k+100) t).length=32:=z3h k hk ht (by rw[zqf];omega)
theorem zjn (k:Nat){t d:List UInt8}(hk:600<=k)(ht:t.length<=30000)(hd:d.length<=8000):(zps (k+100) t d).length=32:=z3h k hk ht (by rw[zs0];omega)
theorem zjj (k:Nat){t:List UInt8}(hk:600<=k)(ht:t.length<=30000):z8x (k+100) t=some (z38 (k+100) t):=by
 rw[z8x,show z27 (k+100) t [[115,101,97,108]]=some (z38 (k+100) t) from zbz k (l:=[[115,101,97,108]]) hk ht (by simp) (by rw[zqf];omega)];rfl
theorem zjk (k:Nat){t d:List UInt8}(hk:600<=k)(ht:t.length<=30000)(hd:d.length<=8000):z8y (k+100) t d=some (zps (k+100) t d):=by
 rw[z8y,show z27 (k+100) t [[98,105,110,100],d]=some (zps (k+100) t d) from zbz k (l:=[[98,105,110,100],d]) hk ht (by simp) (by rw[zs0];omega)];rfl
theorem zoj (k:Nat){t:Tk}{l:Lk}(hk:600<=k)(hn:t.2.1.length<=100)(ht:t.2.2.1.length<=30000)(hl:zd4 l):z1p (k+100) (l,(t,()))=some (zgd (k+100) t l):=by
 rw[z1p,show (l,(t,())).2.1=t from rfl,zpf (k+100) (by omega),Option.bind_some,zj (decide_eq_true (by omega)),zrq k hk ht hl];rfl
def zxs (N:Nat)(t:Tk)(text:List UInt8):Tk×Int×Unit:=if 64<=t.2.1.length\/2048<text.length then (z1s,3,()) else (zgd N t (text,[],()),0,())
theorem zvy {N:Nat}{t:Tk}{text:List UInt8} :
 z59 N t text=(if 64<=t.2.1.length\/2048<text.length then some (z1s,3,()) else (z1p N ((text,[],()),t,())).bind fun y2=>some (y2,0,())):=by
 simp only[z59,zcb,zca];by_cases h1:64<=t.2.1.length
 . rw[if_pos (.inl h1),show decide ((64:Int)<=((t.2.1.length:Nat):Int))=true from decide_eq_true (by omega)];rfl
 . rw[show decide ((64:Int)<=((t.2.1.length:Nat):Int))=false from decide_eq_false (by omega)];by_cases h2:2048<text.length
   . rw[if_pos (.inr h2),show decide ((2048:Int)<((text.length:Nat):Int))=true from decide_eq_true (by omega)];rfl
   . rw[if_neg (by omega),show decide ((2048:Int)<((text.length:Nat):Int))=false from decide_eq_false (by omega)];rfl
theorem z12t (k:Nat){t:Tk}{text:List UInt8}(hk:600<=k)(hn:t.2.1.length<=100)(ht:t.2.2.1.length<=30000):z59 (k+100) t text=some (zxs (k+100) t text):=by
 unfold zxs;rw[zvy];by_cases h:64<=t.2.1.length\/2048<text.length
 . rw[if_pos h,if_pos h]
 . have hs:zd4 (text,[],()):=⟨by simp only;omega,by simp⟩
   rw[if_neg h,if_neg h,zoj k hk hn ht hs];rfl
theorem z12s (k:Nat){t d:Tk}(hk:600<=k)(hn:d.2.1.length<=1000)(ht:t.2.2.1.length<=30000)(hd:d.2.2.1.length<=8000):z9j (k+100) t d=some (d.1,d.2.1,zps (k+100) t.2.2.1 d.2.2.1,()):=by
 rw[z9j,zpf (k+100) hn,Option.bind_some,zjk k hk ht hd];rfl
theorem z18d (k:Nat){t:Tk}{text:List UInt8}(hk:600<=k)(hn:t.2.1.length<64)(ht:t.2.2.1.length<=30000)(hx:text.length<=2048):z59 (k+100) t text=some (zgd (k+100) t (text,[],()),0,()):=by
 have hs:zd4 (text,[],()):=⟨by simp only;omega,by simp⟩
 rw[zvy,if_neg (by omega),zoj k hk (by omega) ht hs];rfl
end
end Go.Proofs.YtlhdohlpilippaaDoorLg
set_option linter.all false
set_option maxRecDepth 100000
namespace Go.Proofs.YtlhdohlpilippaaDoorLg
noncomputable section
open Go Go.Lift Go.Proofs.YtlhdohlpilippaaDoorPx
abbrev zd7:Type:=Tk×List Tk×Unit
abbrev ItD:Type:=Tk×List (List UInt8)
structure SV where
 used:List Bool
 items:List ItD
 texts:List (List UInt8)
 work:Nat
 summed:List (List UInt8)
theorem zid {σ β γ:Type}{step:σ->(σ->Option β)->Option β}(I:γ->σ->Prop)(m:σ->Nat)(R:γ->Option β)
 (h:∀ g v r,I g v->(∀ g' v',I g' v'->m v'<m v->r v'=R g')->step v r=R g):∀ (n:Nat) (g:γ) (v:σ),I g v->m v<n->iter step n v=R g
 | 0,g,v,_,hm=>by omega
 | n+1,g,v,hv,hm=>h g v (iter step n) hv fun g' v' hv' hlt=>zid I m R h n g' v' hv' (by omega)
def zli (N:Nat)(key s:List UInt8):Option (List UInt8):=if 48<=s.length/\s.length<=4144/\z113 N key s=true then some (zwo N key s) else none
def boxS (N:Nat)(key s:List UInt8):List (List UInt8):=if 48<=s.length/\s.length<=4144 then zb0 N key (z1n [[116,97,103]])++zb0 N (tagK N key) (s.take (s.length - 32)) else []
def zf1 (id:List UInt8):List Tk->List Bool->Nat->Option Nat
 | t::ts,u::us,i=>if t.1=id/\u=false then some i else zf1 id ts us (i+1)
 | _,_,_=>none
def z9v (N:Nat) (b:zd7) (st:SV) (before:List UInt8) (l:Lk):SV×Bool :=
 let s1:SV:={ st with work:=st.work+1,summed:=st.summed++(zb0 N before (z1n [[115,101,97,108]])++boxS N (z38 N before) l.2.1) }
 match zli N (z38 N before) l.2.1 with
 | none=>(s1,false)
 | some c=>match zf1 l.1 b.2.1 st.used 0 with
   | none=>(s1,false)
   | some a =>
     let d:=b.2.1.getD a z1s
     let tg:=zaa N (z4d N c d.1) d.2.1
     let last:=zan N (z4d N c d.1) d.2.1
     let s2:SV:={ s1 with used:=st.used.set a true,work:=st.work+d.2.1.length+3,summed:=s1.summed++(zq5 N c d.1 d.2.1++zb0 N b.1.2.2.1 (z1n [[98,105,110,100],last])) }
     if zps N b.1.2.2.1 last=d.2.2.1 then ({ s2 with items:=st.items++[(d,tg)] },true) else (s2,false)
def z3c (N:Nat) (b:zd7):List Lk->List (List UInt8)->SV->SV×Bool
 | [],_,st=>(st,true)
 | _::_,[],st=>(st,false)
 | l::ls,g::gs,st=>if l.2.1=[] then z3c N b ls gs { st with texts:=st.texts++[l.1] } else
   match z9v N b st g l with
   | (s,true)=>z3c N b ls gs s
   | (s,false)=>(s,false)
def z5f (N:Nat) (b:zd7):Nat->Nat->SV->SV×Bool
 | 0,_,st=>(st,false)
 | f + 1,i,st=>if i<st.items.length then
     match z3c N b (st.items.getD i (z1s,[])).1.2.1 (st.items.getD i (z1s,[])).2 st with
     | (s,true)=>z5f N b f (i+1) s
     | (s,false)=>(s,false)
   else (st,true)
def z9u (ls:List Lk):Nat:=(ls.filter fun l=>!(l.2.1 == [])).length
def za2 (its:List ItD):Nat:=(its.map fun x=>z9u x.1.2.1).sum
def z18k (t:Tk):Nat:=t.2.1.length+2+z9u t.2.1
def z129:List Tk->List Bool->Nat
 | t::ts,u::us=>(if u then 0 else z18k t)+z129 ts us
 | _,_=>0
def zjr (us:List Bool):Nat:=(us.filter id).length
theorem zq3 (ls:List Lk):z9u ls<=ls.length:=List.length_filter_le ..
theorem zbn (l:Lk)(ls:List Lk):z9u (l::ls)=(if l.2.1=[] then 0 else 1)+z9u ls:=by
 unfold z9u;by_cases h:l.2.1=[]
 . simp[h]
 . simp[h];omega
theorem zdu (a b:List ItD):za2 (a++b)=za2 a+za2 b:=by simp[za2]
theorem zdt (a:ItD):za2 [a]=z9u a.1.2.1:=by simp[za2]
theorem zes (id:List UInt8):∀ (ts:List Tk) (us:List Bool) (i a:Nat),zf1 id ts us i=some a->i<=a/\a - i<ts.length/\a - i<us.length/\(ts.getD (a - i) z1s).1=id/\us.getD (a - i) true=false ∧
 z129 ts us=z129 ts (us.set (a - i) true)+z18k (ts.getD (a - i) z1s)/\zjr (us.set (a - i) true)=zjr us+1
 | [],us,i,a,h=>by simp[zf1] at h
 | t::ts,[],i,a,h=>by simp[zf1] at h
 | t :: ts,u::us,i,a,h=>by
   unfold zf1 at h;split at h
   . rename_i hc;cases h;obtain⟨h1,h2⟩:=hc;subst h2;rw[Nat.sub_self];refine⟨Nat.le_refl _,by simp,by simp,h1,rfl,?_,?_⟩
     . simp[z129];omega
     . simp[zjr]
   . obtain⟨g1,g2,g3,g4,g5,g6,g7⟩:=zes id ts us (i+1) a h;have e:a - i=(a - (i+1))+1:=by omega
     rw[e];refine⟨by omega,by simp;omega,by simp;omega,by simpa using g4,by simpa using g5,?_,?_⟩
     . simp only[List.set_cons_succ,z129,List.getD_cons_succ];omega
     . simp only[List.set_cons_succ,zjr,List.filter_cons] at g7 ⊢;cases u<;>simp at g7 ⊢<;>omega
theorem zk1 (us:List Bool):zjr us<=us.length:=List.length_filter_le ..
structure GoodT (t:Tk):Prop where
 id:t.1.length<=4200
 tag:t.2.2.1.length<=100
 len:t.2.1.length<=64
 links:∀ l∈t.2.1,zd4 l
structure GoodB (b:zd7):Prop where
 one:GoodT b.1
 more:∀ t∈b.2.1,GoodT t
 len:b.2.1.length<=8
def z1a2 (x:ItD):Prop:=GoodT x.1/\x.2.length=x.1.2.1.length+1/\∀ g∈x.2,g.length=32
structure Inv (b:zd7) (C i:Nat) (ls:List Lk) (st:SV):Prop where
 used:st.used.length=b.2.1.length
 items:∀ x∈st.items,z1a2 x
 len:st.items.length<=zjr st.used+1
 texts:st.texts.length+ls.length<=64*(i+1)
 summed:st.summed.length<=200*st.work+200
 work:st.work+z129 b.2.1 st.used+z9u ls+za2 (st.items.drop (i+1))<=C
theorem z6w {α:Type}(l:List α)(d:α)(i:Nat)(h:i<l.length):l.getD i d∈l:=by
 rw[List.getD_eq_getElem?_getD,List.getElem?_eq_getElem h];simp
theorem zom (k:Nat)(hk:600<=k):∀ (ls:List Lk) {t:List UInt8},t.length=32->(∀ l∈ls,zd4 l)->∀ g∈zaa (k+100) t ls,g.length=32
 | [],t,ht,_,g,hg=>by simp[zaa] at hg;rw[hg];exact ht
 | l::ls,t,ht,hs,g,hg=>by
   rw[zaa] at hg;rcases List.mem_cons.1 hg with rfl|hg
   . exact ht
   . exact zom k hk ls (z4u k hk (by omega) (hs l List.mem_cons_self)) (fun x hx=>hs x (List.mem_cons_of_mem _ hx)) g hg
theorem zj1 (k:Nat){key s c:List UInt8}(hk:600<=k)(hl:key.length<=30000)(h:zli (k+100) key s=some c):c.length<=4096:=by
 unfold zli at h;split at h
 . rename_i hc;cases h;rw[zqt k hk hl hc.1];omega
 . cases h
theorem zf7 (k:Nat){c id:List UInt8}(hk:600<=k)(hc:c.length<=30000)(hi:id.length<=8000):(z4d (k+100) c id).length=32 :=
 z3h k (key:=c) (text:=z1n (z6o id)) hk hc (by rw[zbx];omega)
theorem zq4 (k:Nat) (hk:600<=k) {b:zd7} {C i:Nat} {l:Lk} {ls:List Lk} {st:SV} {before:List UInt8} (hb:GoodB b) (h:Inv b C i (l::ls) st) (hi:i<st.items.length) (hl:l.2.1≠[]) (hbf:before.length=32) :
 Inv b C i ls (z9v (k+100) b st before l).1:=by
 have hw:=h.work;have htx:=h.texts;have hsm:=h.summed;rw[zbn,if_neg hl] at hw;simp only[List.length_cons] at htx;have hsl:(z38 (k+100) before).length=32:=z5t k hk (by omega);have hS1:(zb0 (k+100) before (z1n [[115,101,97,108]])++boxS (k+100) (z38 (k+100) before) l.2.1).length<=6:=by
  unfold boxS;split<;>simp[zb0]
 have base:Inv b C i ls { st with work:=st.work+1,summed:=st.summed++(zb0 (k+100) before (z1n [[115,101,97,108]])++boxS (k+100) (z38 (k+100) before) l.2.1) } :=
  ⟨h.used,h.items,h.len,by simp only;omega,by simp only;rw[List.length_append];omega,by simp only;omega⟩
 unfold z9v;simp only;cases ho:zli (k+100) (z38 (k+100) before) l.2.1 with
 | none=>exact base
 | some c =>
   simp only;have hc:=zj1 k hk (by omega) ho;cases hf:zf1 l.1 b.2.1 st.used 0 with
   | none=>exact base
   | some a =>
     simp only;obtain⟨_,g2,g3,g4,g5,g6,g7⟩:=zes _ _ _ _ _ hf;rw[Nat.sub_zero] at g2 g3 g4 g5 g6 g7;have hd:=hb.more _ (z6w b.2.1 z1s a g2);generalize b.2.1.getD a z1s=d at *;have hr:=zf7 k (c:=c) (id:=d.1) hk (by omega) (by have:=hd.id;omega);have hdl:=hd.len;have hS2:(zq5 (k+100) c d.1 d.2.1++zb0 (k+100) b.1.2.2.1 (z1n [[98,105,110,100],zan (k+100) (z4d (k+100) c d.1) d.2.1])).length=2*d.2.1.length+4:=by
      unfold zq5;rw[List.length_append,List.length_append,z88];simp[zb0];omega
     have hcost:z18k d=d.2.1.length+2+z9u d.2.1:=rfl;split
     . refine⟨by simpa using h.used,?_,?_,by simp only;omega,?_,?_⟩
       . intro x hx;rcases List.mem_append.1 hx with hx|hx
         . exact h.items x hx
         . rw[List.mem_singleton] at hx;subst hx;exact⟨hd,z6a _ _ _,zom k hk _ hr hd.links⟩
       . simp only[List.length_append,List.length_cons,List.length_nil];have:=h.len;omega
       . simp only[List.length_append] at hS1 hS2 ⊢;omega
       . simp only;rw[List.drop_append_of_le_length (by omega),zdu,zdt];simp only;omega
     . refine⟨by simpa using h.used,h.items,?_,by simp only;omega,?_,?_⟩
       . simp only;rw[g7];have:=h.len;omega
       . simp only[List.length_append] at hS1 hS2 ⊢;omega
       . simp only;omega
end
end Go.Proofs.YtlhdohlpilippaaDoorLg
set_option linter.all false
set_option maxRecDepth 100000
namespace Go.Proofs.YtlhdohlpilippaaDoorLg
noncomputable section
open Go Go.Lift Go.Proofs.YtlhdohlpilippaaDoorPx
abbrev VerD:Type:=List Lk×(List (List UInt8)×Unit)
abbrev z115:Type:=zd7×(List Bool×(List VerD×(List (List UInt8)×(Int×Unit))))
def zmq (x:ItD):VerD:=(x.1.2.1,(x.2,()))
def zaf (b:zd7)(st:SV):z115:=(b,(st.used,(st.items.map zmq,(st.texts,(((st.work:Nat):Int),())))))
def unI:Option Nat->Int
 | some a=>((a:Nat):Int)
 | none=>-1
theorem zry (k:Nat){key s c:List UInt8}(hk:4400<=k)(hl:key.length<=30000)(h:zli (k+100) key s=some c):z64 (k+100) key s=some (c,0,())/\True:=by
 unfold zli at h;split at h
 . rename_i hc;cases h;rw[zsw k hk hl hc.1 hc.2.1,hc.2.2];exact⟨rfl,trivial⟩
 . cases h
theorem zrz (k:Nat) {key s:List UInt8} (hk:4400<=k) (hl:key.length<=30000) (h:zli (k+100) key s=none):∃ e:Int,e≠0/\z64 (k+100) key s=some ([],e,())/\True:=by
 unfold zli at h;split at h
 . cases h
 . rename_i hc;by_cases h1:48<=s.length
   . by_cases h2:s.length<=4144
     . have hf:z113 (k+100) key s=false:=by
        cases hf:z113 (k+100) key s with
        | false=>rfl
        | true=>exact absurd ⟨h1,h2,hf⟩ hc
       refine⟨8,by decide,?_,trivial⟩;rw[zsw k hk hl h1 h2,hf];rfl
     . refine⟨3,by decide,?_,trivial⟩;have e:decide ((((List.length s):Nat):Int)<(48:Int))=false:=zaq (by omega);have e2:decide ((4144:Int)<(((List.length s):Nat):Int))=true:=z3m (by omega);unfold z64 z60;simp only[e,e2,cond_true,cond_false];rfl
   . refine⟨1,by decide,?_,trivial⟩;have e:decide ((((List.length s):Nat):Int)<(48:Int))=true:=z3m (by omega);unfold z64 z60;simp only[e,cond_true];rfl
theorem zxx (N:Nat){r:z115}{id:List UInt8}(hu:r.2.1.length=r.1.2.1.length)(hl:r.1.2.1.length<=100)(hN:200<N) :
 z3p N r id=some (unI (zf1 id r.1.2.1 r.2.1 0),(r,())):=by
 rw[z3p,z8b];refine (z4w (fun v=>∃ i:Nat,v=(i:Int)/\i<=r.1.2.1.length) (fun v=>r.1.2.1.length - v.toNat) (fun v=>some (unI (zf1 id (r.1.2.1.drop v.toNat) (r.2.1.drop v.toNat) v.toNat),(r,()))) ?_ N 0 ⟨0,rfl,by omega⟩ (by omega)).trans (by rfl);rintro v r' ⟨i,rfl,hi⟩ hr;simp only[Int.toNat_natCast];rw[z5m];by_cases hlt:i<r.1.2.1.length
 . have hlt2:i<r.2.1.length:=by omega
   rw[zj (decide_eq_true (by omega)),zj (z2b hlt),z5n,Int.toNat_natCast,z2k r.1.2.1 z1s i hlt,z2k r.2.1 false i hlt2,zf1];rw[show (([]:List UInt8),(([]:List ((List UInt8)×((List UInt8)×Unit))),(([]:List UInt8),())))=z1s from rfl,z2v (by omega),hr _ ⟨i+1,rfl,by omega⟩ (by omega),Int.toNat_natCast];by_cases h1:(r.1.2.1.getD i z1s).1=id
   . rw[zj (beq_iff_eq.2 h1),zj (z2b hlt2),zj (decide_eq_true hlt2)];cases hb:r.2.1.getD i false with
     | true=>rw[if_neg (by simp)];rfl
     | false=>rw[if_pos ⟨h1,rfl⟩];rfl
   . rw[z1a (beq_eq_false_iff_ne.2 h1),if_neg (fun h=>h1 h.1)];rfl
 . rw[z1a (decide_eq_false (by omega)),z6y _ (by omega),zf1]
   . rfl
   . simp
theorem zv0 (k:Nat)(hk:600<=k){r:z115}{key:List UInt8}{t:Tk}{w:Nat}(hw:r.2.2.2.2.1=((w:Nat):Int))(hw2:w<=1000000)(hl:key.length<=30000)(ht:GoodT t) :
 z3q (k+100) r key t=some ((zaa (k+100) (z4d (k+100) key t.1) t.2.1,(zan (k+100) (z4d (k+100) key t.1) t.2.1,())),((r.1,(r.2.1,(r.2.2.1,(r.2.2.2.1,(((w+(t.2.1.length+1):Nat):Int),r.2.2.2.2.2))))),())):=by
 have h1:=ht.id;have h2:=ht.len;rw[z3q,z15i k hk hl (by omega) (by omega) ht.links,Option.bind_some,z6a,z4k (x:=(((t.2.1.length+1:Nat):Nat):Int) - 1) (by unfold I64;omega),show (((t.2.1.length+1:Nat):Nat):Int) - 1=((t.2.1.length:Nat):Int) by omega,zj (z2b (by omega)),Int.toNat_natCast,zne,hw,z4k (by unfold I64;omega)];congr 1
theorem zvw {tag bt:List UInt8}(h:bt.length=32):(decide (tag.length=32) && (tag == bt))=decide (bt=tag):=by
 by_cases e:bt=tag
 . subst e;simp[h]
 . rw[decide_eq_false e,beq_eq_false_iff_ne.2 (Ne.symm e),Bool.and_false]
theorem z11n (k:Nat) (hk:4400<=k) {b:zd7} {C i:Nat} {l:Lk} {ls:List Lk} {st:SV} {before:List UInt8} (hb:GoodB b) (h:Inv b C i (l::ls) st) (hC:C<=100000) (hbf:before.length=32) :
 z4b (k+100) (zaf b st) before l=some ((z9v (k+100) b st before l).2,(zaf b (z9v (k+100) b st before l).1,())):=by
 have hwk:=h.work;have hsl:(z38 (k+100) before).length=32:=z5t k (by omega) (by omega);obtain⟨used,items,texts,work,summed⟩:=st;have hu:used.length=b.2.1.length:=h.used;have hb8:=hb.len;simp only at hwk;have hw1:IntKind.wrap .i64 (((work:Nat):Int)+1)=((work+1:Nat):Int):=by rw[z4k (by unfold I64;omega)];omega
 rw[z4b,zjj k (by omega) (by omega),Option.bind_some];unfold z9v zaf;simp only;rw[hw1];cases ho:zli (k+100) (z38 (k+100) before) l.2.1 with
 | none =>
   obtain⟨e,he,hbx,_⟩:=zrz k hk (by omega) ho;rw[hbx,Option.bind_some,zj (bne_iff_ne.2 he)]
 | some c =>
   have hc:=zj1 k (by omega) (by omega) ho;rw[(zry k hk (by omega) ho).1,Option.bind_some,z1a (by rfl)];simp only;rw[zxx (k+100) (r:=(b,(used,(items.map zmq,(texts,(((work+1:Nat):Int),())))))) hu (by simp only;omega) (by omega),Option.bind_some];simp only;cases hf:zf1 l.1 b.2.1 used 0 with
   | none =>
     rw[zj (by rfl)]
   | some a =>
     obtain⟨_,g2,g3,g4,g5,g6,g7⟩:=zes _ _ _ _ _ hf;rw[Nat.sub_zero] at g2 g3;have hd:=hb.more _ (z6w b.2.1 z1s a g2);have hd1:=hd.tag;have hd2:=hd.len;have hd3:=hd.id;have hbt:=hb.one.tag;have hr:=zf7 k (c:=c) (id:=(b.2.1.getD a z1s).1) (by omega) (by omega) (by omega);have hlast:(zan (k+100) (z4d (k+100) c (b.2.1.getD a z1s).1) (b.2.1.getD a z1s).2.1).length=32:=z7z k (by omega) _ hr hd.links;have hbn:(zps (k+100) b.1.2.2.1 (zan (k+100) (z4d (k+100) c (b.2.1.getD a z1s).1) (b.2.1.getD a z1s).2.1)).length=32:=zjn k (by omega) (by omega) (by omega);rw[show unI (some a)=((a:Nat):Int) from rfl,z1a (decide_eq_false (by omega)),zj (z2b g2),zj (z2b g3),Int.toNat_natCast,zj (decide_eq_true g3)];rw[show (([]:List UInt8),(([]:List ((List UInt8)×((List UInt8)×Unit))),(([]:List UInt8),())))=z1s from rfl];rw[zv0 k (by omega) (w:=work+1) rfl (by omega) (by omega) hd,Option.bind_some];simp only;rw[zjk k (by omega) (by omega) (by omega),Option.bind_some,zsm (k+100) (by omega) (by omega),Option.bind_some,zvw hbn];have hw2:IntKind.wrap .i64 (((work+1+((b.2.1.getD a z1s).2.1.length+1):Nat):Int)+1)=((work+(b.2.1.getD a z1s).2.1.length+3:Nat):Int):=by rw[z4k (by unfold I64;omega)];omega
     rw[hw2];have hil:items.length<=9:=by
      have h1:items.length<=zjr used+1:=h.len;have h2:=zk1 used;omega
     by_cases he:zps (k+100) b.1.2.2.1 (zan (k+100) (z4d (k+100) c (b.2.1.getD a z1s).1) (b.2.1.getD a z1s).2.1)=(b.2.1.getD a z1s).2.2.1
     . rw[decide_eq_true he,Bool.not_true,cond_false,zj (decide_eq_true (by rw[List.length_map];omega)),if_pos he,List.map_append];rfl
     . rw[decide_eq_false he,Bool.not_false,cond_true,if_neg he]
end
end Go.Proofs.YtlhdohlpilippaaDoorLg
set_option linter.all false
set_option maxRecDepth 100000
namespace Go.Proofs.YtlhdohlpilippaaDoorLg
noncomputable section
open Go Go.Lift Go.Proofs.YtlhdohlpilippaaDoorPx
theorem zkk (N:Nat)(b:zd7)(st:SV)(before:List UInt8)(l:Lk):st.items.length<=(z9v N b st before l).1.items.length:=by
 unfold z9v;simp only;split
 . exact Nat.le_refl _
 . split
   . exact Nat.le_refl _
   . split
     . simp
     . exact Nat.le_refl _
theorem zyv {b:zd7}{C i:Nat}{l:Lk}{ls:List Lk}{st:SV}(h:Inv b C i (l::ls) st)(hl:l.2.1=[]):Inv b C i ls { st with texts:=st.texts++[l.1] }:=by
 have h1:=h.texts;have h2:=h.work;rw[zbn,if_pos hl] at h2;refine⟨h.used,h.items,h.len,?_,h.summed,by simp only;omega⟩;simp only[List.length_append,List.length_cons,List.length_nil] at h1 ⊢;omega
theorem zh3 (k:Nat) (hk:600<=k) {b:zd7} {C i:Nat} (hb:GoodB b):∀ (ls:List Lk) (gs:List (List UInt8)) (st:SV),Inv b C i ls st->i<st.items.length->(∀ g∈gs,g.length=32) →
 (z3c (k+100) b ls gs st).1.work<=C/\(z3c (k+100) b ls gs st).1.used.length=b.2.1.length/\(z3c (k+100) b ls gs st).1.summed.length<=200*C+200/\((z3c (k+100) b ls gs st).2=true->Inv b C i [] (z3c (k+100) b ls gs st).1/\i<(z3c (k+100) b ls gs st).1.items.length)
 | [],gs,st,h,hi,_=>by
   unfold z3c;have hw:=h.work;have hs:=h.summed;exact⟨by simp only;omega,h.used,by simp only;omega,fun _=>⟨h,hi⟩⟩
 | l::ls,[],st,h,hi,_=>by
   unfold z3c;have hw:=h.work;have hs:=h.summed;exact⟨by simp only;omega,h.used,by simp only;omega,fun e=>by cases e⟩
 | l :: ls,g::gs,st,h,hi,hg=>by
   unfold z3c;by_cases hl:l.2.1=[]
   . rw[if_pos hl];exact zh3 k hk hb ls gs _ (zyv h hl) hi (fun x hx=>hg x (List.mem_cons_of_mem _ hx))
   . rw[if_neg hl];have h1:=zq4 k hk hb h hi hl (hg g List.mem_cons_self);have h2:=zkk (k+100) b st g l;have hw:=h1.work;have hs:=h1.summed;generalize z9v (k+100) b st g l=T at *;obtain⟨s,ok⟩:=T;cases ok with
     | true=>exact zh3 k hk hb ls gs s h1 (Nat.lt_of_lt_of_le hi h2) (fun x hx=>hg x (List.mem_cons_of_mem _ hx))
     | false =>
       simp only at hw hs ⊢;exact⟨by omega,h1.used,by omega,fun e=>by cases e⟩
structure OInv (b:zd7) (C i:Nat) (st:SV):Prop where
 used:st.used.length=b.2.1.length
 items:∀ x∈st.items,z1a2 x
 len:st.items.length<=zjr st.used+1
 texts:st.texts.length<=64*i
 summed:st.summed.length<=200*st.work+200
 work:st.work+z129 b.2.1 st.used+za2 (st.items.drop i)<=C
theorem OInv.enter {b:zd7}{C i:Nat}{st:SV}(h:OInv b C i st)(hi:i<st.items.length):Inv b C i (st.items.getD i (z1s,[])).1.2.1 st:=by
 have hx:=h.items _ (z6w st.items (z1s,[]) i hi);have hw:=h.work;have ht:=h.texts;have hl:=hx.1.len;rw[z2k st.items (z1s,[]) i hi,show ((st.items.getD i (z1s,[]))::st.items.drop (i+1))=[st.items.getD i (z1s,[])]++st.items.drop (i+1) from rfl,zdu,zdt] at hw;exact⟨h.used,h.items,h.len,by omega,h.summed,by omega⟩
theorem Inv.leave {b:zd7}{C i:Nat}{st:SV}(h:Inv b C i [] st):OInv b C (i+1) st:=by
 have hw:=h.work;have ht:=h.texts;exact⟨h.used,h.items,h.len,by simpa using ht,h.summed,by simp only[z9u,List.filter_nil,List.length_nil] at hw;omega⟩
theorem zqs (k:Nat)(hk:600<=k){b:zd7}{C:Nat}(hb:GoodB b):∀ (f i:Nat) (st:SV),OInv b C i st →
 (z5f (k+100) b f i st).1.work<=C/\(z5f (k+100) b f i st).1.used.length=b.2.1.length/\(z5f (k+100) b f i st).1.summed.length<=200*C+200
 | 0,i,st,h=>by
   have hw:=h.work;have hs:=h.summed;exact⟨by simp only[z5f];omega,h.used,by simp only[z5f];omega⟩
 | f + 1,i,st,h=>by
   unfold z5f;split
   . rename_i hi;have hx:=h.items _ (z6w st.items (z1s,[]) i hi);have hf:=zh3 k hk hb _ (st.items.getD i (z1s,[])).2 st (h.enter hi) hi hx.2.2;generalize z3c (k+100) b (st.items.getD i (z1s,[])).1.2.1 (st.items.getD i (z1s,[])).2 st=T at *;obtain⟨s,ok⟩:=T;cases ok with
     | true=>exact zqs k hk hb f (i+1) s (hf.2.2.2 rfl).1.leave
     | false=>exact⟨hf.1,hf.2.1,hf.2.2.1⟩
   . have hw:=h.work;have hs:=h.summed;exact⟨by simp only;omega,h.used,by simp only;omega⟩
theorem z15x (l:Lk):eqD (T.pair T.str (T.pair T.str T.unit)) l (l.1,(([]:List UInt8),()))=decide (l.2.1=[]):=by
 obtain⟨a,c,u⟩:=l;cases u;rw[Bool.eq_iff_iff,decide_eq_true_eq,zp9 _ _ _ rfl];simp
theorem z12r (k:Nat) (hk:4400<=k) {b:zd7} {C i:Nat} (hb:GoodB b) (hC:C<=100000) (hi9:i<=20) {complete:Bool} {i0:Int} {x:ItD} (hx:z1a2 x) {st0:SV} (h0:Inv b C i x.1.2.1 st0) (hi0:i<st0.items.length)
 (k0:z115->Bool->Option (Int×(z115×Unit))) (k1:z115->Option (Int×(z115×Unit))) :
 z3n (k+100) (zaf b st0) complete i0 (zmq x) (zmq x).1 (((zmq x).1.length:Nat):Int) 0 k0 k1=match z3c (k+100) b x.1.2.1 x.2 st0 with|(s,true)=>k1 (zaf b s)|(s,false)=>k0 (zaf b s) false:=by
 have hxl:=hx.1.len;have hxt:=hx.2.1;have hxl':=hx.1.links;show z3n (k+100) (zaf b st0) complete i0 (zmq x) x.1.2.1 ((x.1.2.1.length:Nat):Int) 0 k0 k1=_;rw[z3n];refine (zid (γ:=List Lk×List (List UInt8)×SV) (fun g v=>∃ j:Nat,v=(zaf b g.2.2,(j:Int))/\j<=x.1.2.1.length/\g.1=x.1.2.1.drop j/\g.2.1=x.2.drop j/\Inv b C i g.1 g.2.2/\i<g.2.2.items.length)
  (fun v=>x.1.2.1.length - v.2.toNat) (fun g=>match z3c (k+100) b g.1 g.2.1 g.2.2 with|(s,true)=>k1 (zaf b s)|(s,false)=>k0 (zaf b s) false) ?_ (k+100) (x.1.2.1,x.2,st0) (zaf b st0,0) ⟨0,rfl,by omega,rfl,rfl,h0,hi0⟩ (by simp only;omega))
 rintro⟨ls,gs,st⟩ v r ⟨j,rfl,hj,e1,e2,hinv,hi⟩ hr;simp only at e1 e2 hinv hi;subst e1 e2;simp only[Int.toNat_natCast];rw[z5h];by_cases hlt:j<x.1.2.1.length
 . have hlt2:j<x.2.length:=by omega
   have hg32:=hx.2.2 _ (z6w x.2 [] j hlt2);have hlk:=hxl' _ (z6w x.1.2.1 ([],[],()) j hlt);rw[z2k x.1.2.1 ([],[],()) j hlt] at hinv ⊢;rw[z2k x.2 [] j hlt2,z3c];rw[zj (decide_eq_true (by omega)),zj (z2b hlt),Int.toNat_natCast,z15x,z2v (by omega)];by_cases hl:(x.1.2.1.getD j ([],[],())).2.1=[]
   . have htx:=hinv.texts;simp only[List.length_cons] at htx;rw[decide_eq_true hl,cond_true,zj (decide_eq_true (by show (st.texts.length+1)*16<=_;omega)),if_pos hl];exact hr (x.1.2.1.drop (j+1),x.2.drop (j+1),_) _ ⟨j+1,rfl,by omega,rfl,rfl,zyv hinv hl,hi⟩ (by simp only;omega)
   . rw[decide_eq_false hl,cond_false,show (zmq x).2.1=x.2 from rfl,zj (z2b hlt2),z11n k hk hb hinv hC hg32,Option.bind_some,if_neg hl];have h1:=zq4 k (by omega) hb hinv hi hl hg32;have h2:=zkk (k+100) b st (x.2.getD j []) (x.1.2.1.getD j ([],[],()));generalize z9v (k+100) b st (x.2.getD j []) (x.1.2.1.getD j ([],[],()))=T at *;obtain⟨s,ok⟩:=T;cases ok with
     | true =>
       rw[Bool.not_true,cond_false];exact hr (x.1.2.1.drop (j+1),x.2.drop (j+1),s) _ ⟨j+1,rfl,by omega,rfl,rfl,h1,Nat.lt_of_lt_of_le hi h2⟩ (by simp only;omega)
     | false=>rfl
 . rw[z1a (decide_eq_false (by omega)),z6y _ (by omega),z3c]
theorem z12d (k:Nat)(hk:4400<=k){b:zd7}{C:Nat}(hb:GoodB b)(hC:C<=100000){complete:Bool}{st0:SV}(h0:OInv b C 0 st0)(hc:complete=true)
 (k0:z115->Bool->Option (Int×(z115×Unit))) :
 z5k (k+100) (zaf b st0) complete 0 k0=k0 (zaf b (z5f (k+100) b 20 0 st0).1) (z5f (k+100) b 20 0 st0).2:=by
 subst hc;rw[z5k];refine (zid (γ:=Nat×SV) (fun g v=>v=(zaf b g.2,((g.1:Nat):Int))/\g.1<=9/\OInv b C g.1 g.2) (fun v=>10 - v.2.toNat) (fun g=>k0 (zaf b (z5f (k+100) b (20 - g.1) g.1 g.2).1) (z5f (k+100) b (20 - g.1) g.1 g.2).2) ?_ (k+100) (0,st0) (zaf b st0,0) ⟨rfl,by omega,h0⟩ (by simp only;omega));rintro⟨i,st⟩ v r ⟨rfl,hi9,hinv⟩ hr;simp only at hi9 hinv;simp only;rw[z5i];have hb8:=hb.len;have hln:=hinv.len;have hun:=zk1 st.used;have hul:=hinv.used;have hlm:(zaf b st).2.2.1.length=st.items.length:=by show (st.items.map zmq).length=_;rw[List.length_map]
 obtain⟨f,hf⟩:∃ f,20 - i=f+1:=⟨19 - i,by omega⟩
 rw[hf,z5f,hlm];by_cases hlt:i<st.items.length
 . have hgd:(zaf b st).2.2.1.getD i (([]:List ((List UInt8)×((List UInt8)×Unit))),(([]:List (List UInt8)),()))=zmq (st.items.getD i (z1s,[])):=by
    show (st.items.map zmq).getD i _=_;simp only[List.getD_eq_getElem?_getD,List.getElem?_map,List.getElem?_eq_getElem hlt];rfl
   have hx:=hinv.items _ (z6w st.items (z1s,[]) i hlt);rw[zj (decide_eq_true (by omega)),zj (z2b hlt),Int.toNat_natCast,zj (decide_eq_true hlt),hgd,if_pos hlt];rw[z12r k hk hb hC (by omega) hx (hinv.enter hlt) hlt];have hfin:=zh3 k (by omega) hb _ (st.items.getD i (z1s,[])).2 st (hinv.enter hlt) hlt hx.2.2;generalize z3c (k+100) b (st.items.getD i (z1s,[])).1.2.1 (st.items.getD i (z1s,[])).2 st=T at *;obtain⟨s,ok⟩:=T;cases ok with
   | true =>
     simp only;obtain⟨h1,h2⟩:=hfin.2.2.2 rfl;simp only at h1 h2;have hl1:=h1.len;have hl2:=zk1 s.used;have hl3:=h1.used;rw[z2v (by omega),hr (i+1,s) _ ⟨rfl,by simp only;omega,h1.leave⟩ (by simp only;omega)];simp only;rw[show 20 - (i+1)=f by omega]
   | false=>rfl
 . rw[z1a (decide_eq_false (by omega)),if_neg hlt]
def z18c (v:Bool):List Bool->Nat->Int
 | [],_=>-1
 | x::l,i=>if v=x then (i:Int) else z18c v l (i+1)
theorem zvm (v:Bool):∀ (l:List Bool) (i:Nat),decide (0<=z18c v l i)=l.contains v
 | [],i=>rfl
 | x::l,i=>by
   unfold z18c;rw[List.contains_cons];by_cases h:v=x
   . rw[if_pos h,h,beq_self_eq_true,Bool.true_or,decide_eq_true (by omega)]
   . rw[if_neg h,zvm v l (i+1),beq_eq_false_iff_ne.2 h,Bool.false_or]
theorem ztm (N:Nat){s:List Bool}{v:Bool}(hs:s.length<=1000)(hN:1000<N):z1w N s v=some (s.contains v):=by
 have hi:z29 N s v=some (z18c v s 0):=by
  rw[z29,z5s];refine (z4w (fun w=>∃ i:Nat,w=(i:Int)/\i<=s.length) (fun w=>s.length - w.toNat) (fun w=>some (z18c v (s.drop w.toNat) w.toNat)) ?_ N 0 ⟨0,rfl,by omega⟩ (by omega)).trans (by rfl);rintro w r ⟨i,rfl,hi⟩ hr;simp only[Int.toNat_natCast];rw[z3i];by_cases hlt:i<s.length
  . rw[zj (decide_eq_true (by omega)),zj (z2b hlt),Int.toNat_natCast,z2k s false i hlt,z18c,z2v (by omega),hr _ ⟨i+1,rfl,by omega⟩ (by omega),Int.toNat_natCast];by_cases h:v=s.getD i false
    . rw[zj (beq_iff_eq.2 h),if_pos h]
    . rw[z1a (beq_eq_false_iff_ne.2 h),if_neg h]
  . rw[z1a (decide_eq_false (by omega)),z6y _ (by omega),z18c]
 rw[z1w,hi,Option.bind_some,zvm]
def stA (N:Nat)(key:List UInt8)(b:zd7):SV:={ used:=List.replicate b.2.1.length false,items:=[],texts:=[],work:=b.1.2.1.length+1,summed:=zq5 N key b.1.1 b.1.2.1 }
def stB (N:Nat)(key:List UInt8)(b:zd7):SV:={ stA N key b with items:=[(b.1,zaa N (z4d N key b.1.1) b.1.2.1)] }
def zd1 (N:Nat)(key:List UInt8)(b:zd7):SV×Int :=
 if zan N (z4d N key b.1.1) b.1.2.1=b.1.2.2.1 then
 ((z5f N b 20 0 (stB N key b)).1,if (z5f N b 20 0 (stB N key b)).2=true/\(z5f N b 20 0 (stB N key b)).1.used.contains false=false then 0 else 11)
 else (stA N key b,8)
def z12k (b:zd7):Nat:=(b.1.2.1.length+1)+z9u b.1.2.1+(b.2.1.map z18k).sum
theorem zv8:∀ ts:List Tk,z129 ts (List.replicate ts.length false)=(ts.map z18k).sum
 | []=>rfl
 | t::ts=>by
   rw[List.length_cons,List.replicate_succ,z129,zv8 ts];simp
theorem z15o (k:Nat)(hk:600<=k){key:List UInt8}{b:zd7}(hb:GoodB b)(hl:key.length<=30000):OInv b (z12k b) 0 (stB (k+100) key b):=by
 have hr:=zf7 k (c:=key) (id:=b.1.1) hk hl (by have:=hb.one.id;omega);refine⟨by simp[stB,stA],?_,by simp[stB,stA],by simp[stB,stA],?_,?_⟩
 . intro x hx;simp only[stB,List.mem_singleton] at hx;subst hx;exact⟨hb.one,z6a _ _ _,zom k hk _ hr hb.one.links⟩
 . simp only[stB,stA,zq5];rw[List.length_append,z88];simp[zb0];omega
 . simp only[stB,stA,List.drop_zero];rw[zv8,zdt];unfold z12k;simp only;omega
theorem zvu:∀ ts:List Tk,(∀ t∈ts,GoodT t)->(ts.map z18k).sum<=130*ts.length
 | [],_=>by simp
 | t::ts,h=>by
   have h1:=zvu ts fun x hx=>h x (List.mem_cons_of_mem _ hx)
   have h2:=(h t List.mem_cons_self).len;have h3:=zq3 t.2.1;simp only[List.map_cons,List.sum_cons,List.length_cons];unfold z18k at *;omega
theorem z12j {b:zd7}(hb:GoodB b):z12k b<=2000:=by
 have h1:=zvu b.2.1 hb.more;have h2:=hb.len;have h3:=hb.one.len;have h4:=zq3 b.1.2.1;unfold z12k;omega
theorem zsb (k:Nat)(hk:4400<=k){key:List UInt8}{b:zd7}(hb:GoodB b)(hl:key.length<=30000) :
 (z52 (k+100) b).bind (fun y1=>z3o (k+100) y1 key)=some ((zd1 (k+100) key b).2,(zaf b (zd1 (k+100) key b).1,())):=by
 have hb8:=hb.len;have hb1:=hb.one.tag;have hln:=hb.one.len;have hid:=hb.one.id;have hr:=zf7 k (c:=key) (id:=b.1.1) (by omega) hl (by omega);have hlast:(zan (k+100) (z4d (k+100) key b.1.1) b.1.2.1).length=32:=z7z k (by omega) _ hr hb.one.links;have hO:=z15o k (by omega) hb hl;have hM:=z12j hb;rw[z52,zj (decide_eq_true ⟨by omega,by omega,by omega,by omega⟩),Option.bind_some,Int.toNat_natCast];rw[z3o,zv0 k (by omega) (r:=(b,((List.replicate b.2.1.length false),(([]:List VerD),(([]:List (List UInt8)),((0:Int),())))))) (w:=0) rfl (by omega) hl hb.one,Option.bind_some];simp only;rw[zsm (k+100) (by omega) (by omega),Option.bind_some,zvw hlast];unfold zd1;by_cases he:zan (k+100) (z4d (k+100) key b.1.1) b.1.2.1=b.1.2.2.1
 . rw[decide_eq_true he,Bool.not_true,cond_false,if_pos he];have e:((b,(List.replicate b.2.1.length false,([((b.1.2.1,(zaa (k+100) (z4d (k+100) key b.1.1) b.1.2.1,())):VerD)],(([]:List (List UInt8)),(((b.1.2.1.length+1:Nat):Int),()))))):z115)=zaf b (stB (k+100) key b):=rfl;rw[Nat.zero_add,e];rw[z5l,z12d k hk hb (by omega) hO rfl];have hfin:=zqs k (by omega) hb 20 0 _ hO;generalize z5f (k+100) b 20 0 (stB (k+100) key b)=T at *;obtain⟨s,ok⟩:=T;simp only at hfin ⊢;rw[z5j];cases ok with
   | false =>
     rw[Bool.not_false,cond_true,cond_true,if_neg (by simp)]
   | true =>
     rw[Bool.not_true,cond_false,show (zaf b s).2.1=s.used from rfl,ztm (k+100) (by omega) (by omega),Option.bind_some];cases hcn:s.used.contains false with
     | true=>rw[if_neg (by simp)];rfl
     | false=>rw[if_pos ⟨rfl,rfl⟩];rfl
 . rw[decide_eq_false he,Bool.not_false,cond_true,if_neg he,Nat.zero_add];rfl
end
end Go.Proofs.YtlhdohlpilippaaDoorLg
set_option linter.all false
set_option maxRecDepth 100000
namespace Go.Proofs.YtlhdohlpilippaaDoorLg
noncomputable section
open Go Go.Lift Go.Proofs.YtlhdohlpilippaaDoorPx
def zt2 (t:Tk):Bool:=decide (64<t.2.1.length)
def z18b:List Tk->Nat->Int
 | [],_=>-1
 | x::l,i=>if zt2 x then (i:Int) else z18b l (i+1)
theorem zvl:∀ (l:List Tk) (i:Nat),decide (0<=z18b l i)=l.any zt2
 | [],i=>rfl
 | x::l,i=>by
   unfold z18b;rw[List.any_cons];cases h:zt2 x with
   | true=>rw[if_pos rfl,Bool.true_or,decide_eq_true (by omega)]
   | false=>rw[if_neg (by simp),zvl l (i+1),Bool.false_or]
theorem zn5 (N:Nat){s:List Tk}(hs:s.length<=1000)(hN:1000<N):z9p N s=some (s.any zt2):=by
 have hi:zh5 N s=some (z18b s 0):=by
  rw[zh5,zlw];refine (z4w (fun w=>∃ i:Nat,w=(i:Int)/\i<=s.length) (fun w=>s.length - w.toNat) (fun w=>some (z18b (s.drop w.toNat) w.toNat)) ?_ N 0 ⟨0,rfl,by omega⟩ (by omega)).trans (by rfl);rintro w r ⟨i,rfl,hi⟩ hr;simp only[Int.toNat_natCast];rw[zg5];by_cases hlt:i<s.length
  . rw[zj (decide_eq_true (by omega)),zj (z2b hlt),Int.toNat_natCast,z2k s z1s i hlt,z18b,z2v (by omega),hr _ ⟨i+1,rfl,by omega⟩ (by omega),Int.toNat_natCast];rw[show (([]:List UInt8),(([]:List ((List UInt8)×((List UInt8)×Unit))),(([]:List UInt8),())))=z1s from rfl,zt2];by_cases h:64<(s.getD i z1s).2.1.length
    . rw[zj (decide_eq_true (by omega)),decide_eq_true h,if_pos rfl]
    . rw[z1a (decide_eq_false (by omega)),decide_eq_false h,if_neg (by simp)]
  . rw[z1a (decide_eq_false (by omega)),z6y _ (by omega),z18b]
 rw[z9p,hi,Option.bind_some,zvl]
def zht (b:zd7):Bool:=decide (b.2.1.length<=8) && !((b.1::b.2.1).any zt2)
theorem zy0 (N:Nat){b:zd7}(hb:b.2.1.length<=1000):z6l N b=some (b.1::b.2.1):=by
 rw[z6l,zj (decide_eq_true (by omega))];rfl
theorem zkf (N:Nat)(hN:1000<N)(b:zd7):z6k N b=some (zht b):=by
 rw[z6k,zht];by_cases h:b.2.1.length<=8
 . rw[z1a (decide_eq_false (by omega)),zy0 N (by omega),Option.bind_some,zn5 N (by simp only[List.length_cons];omega) hN,Option.bind_some,decide_eq_true h,Bool.true_and]
 . rw[zj (decide_eq_true (by omega)),decide_eq_false h,Bool.false_and]
end
end Go.Proofs.YtlhdohlpilippaaDoorLg
set_option linter.all false
namespace Go.Proofs.YtlhdohlpilippaaDoorLg
noncomputable section
open Go Go.Lift Go.Proofs.YtlhdohlpilippaaDoorPx
theorem z11u (N:Nat){l:List (List UInt8)}{many most:Nat}(hm:many<=1000)(hmo:most<=1000000)(hN:many<N):z3a N l (many:Int) (most:Int)=some (decide (l.length<=many/\l.flatten.length<=most)):=by
 simp only[z3a,z9a];by_cases h:many<l.length
 . rw[zj (z3m (by omega)),decide_eq_false (by omega)]
 rw[z1a (zaq (by omega)),z4w (I:=fun (v:Int×Int)=>∃ (x i:Nat),v=((x:Int),(i:Int))/\i<=l.length/\x<=most) (m:=fun (v:Int×Int)=>l.length - v.2.toNat) (R:=fun (v:Int×Int)=>some (decide ((l.drop v.2.toNat).flatten.length<=v.1.toNat))) ?_ N ((most:Int),0) ⟨most,0,rfl,by omega,by omega⟩ (by simp;omega)]
 . simp only[Int.toNat_zero,List.drop_zero,Int.toNat_natCast];congr 1;rw[Bool.eq_iff_iff,decide_eq_true_eq,decide_eq_true_eq];omega
 rintro v r ⟨x,i,rfl,hi,hx⟩ hr;simp only[z67,Int.toNat_natCast] at *;by_cases hlt:i<l.length
 . have hd:=z2k l [] i hlt;have hfl:(l.drop i).flatten.length=(l.getD i []).length+(l.drop (i+1)).flatten.length:=by rw[hd,List.flatten_cons,List.length_append]
   rw[zj (z3m (by omega)),zj (z2b hlt),zj (z2b hlt)];by_cases hover:x<(l.getD i []).length
   . rw[zj (z3m (by omega))];exact congrArg some (decide_eq_false (by omega)).symm
   . have hw:IntKind.wrap .i64 ((x:Int) - (((l.getD i []).length:Nat):Int))=((x - (l.getD i []).length:Nat):Int):=by rw[z4k (by unfold I64;omega)];omega
     rw[z1a (zaq (by omega)),hw,z2v (by omega),hr _ ⟨x - (l.getD i []).length,i+1,rfl,by omega,by omega⟩ (by dsimp only;omega)];dsimp only;rw[Int.toNat_natCast,Int.toNat_natCast];congr 1;rw[Bool.eq_iff_iff,decide_eq_true_eq,decide_eq_true_eq];omega
 . have hfl:(l.drop i).flatten.length=0:=by rw[z6y l (by omega)];rfl
   rw[z1a (zaq (by omega))];exact congrArg some (decide_eq_true (by omega)).symm
end
end Go.Proofs.YtlhdohlpilippaaDoorLg
set_option linter.all false
set_option maxRecDepth 100000
namespace Go.Proofs.YtlhdohlpilippaaDoorLg
noncomputable section
open Go Go.Lift Go.Proofs.YtlhdohlpilippaaDoorPx
theorem zrd (k:Nat){key nonce text:List UInt8}(hk:4400<=k)(hl:key.length<=30000)(hn:nonce.length=16)(ht:text.length<=1900) :
 z113 (k+100) key (z7e (k+100) key nonce text)=true/\zwo (k+100) key (z7e (k+100) key nonce text)=text:=by
 have h1:=za8 k (key:=key) (nonce:=nonce) (text:=text) (by omega) hl hn;have h2:=z7w k (key:=key) (nonce:=nonce) (text:=text) (by omega) hl hn (by omega);have e1:(z7e (k+100) key nonce text).take ((z7e (k+100) key nonce text).length - 32)=zin (k+100) key nonce text:=by
  rw[h2];unfold z7e;rw[List.take_append_of_le_length (by omega),List.take_of_length_le (by omega)]
 have e2:(z7e (k+100) key nonce text).drop ((z7e (k+100) key nonce text).length - 32)=zrx (k+100) key (zin (k+100) key nonce text):=by
  rw[h2];unfold z7e;rw[List.drop_append_of_le_length (by omega),List.drop_of_length_le (by omega)];rfl
 have e3:(z7e (k+100) key nonce text).take 16=nonce:=by
  unfold z7e zin;rw[List.append_assoc,List.take_append_of_le_length (by omega),List.take_of_length_le (by omega)]
 constructor
 . unfold z113;rw[e1,e2,beq_self_eq_true]
 . unfold zwo;rw[e1,e3];have:(zin (k+100) key nonce text).drop 16=ze2 (k+100) key nonce text:=by
    unfold zin;rw[List.drop_append_of_le_length (by omega),List.drop_of_length_le (by omega)];rfl
   rw[this,ztc k (by omega) hl (by omega)]
end
end Go.Proofs.YtlhdohlpilippaaDoorLg
set_option linter.all false
set_option maxRecDepth 100000
namespace Go.Proofs.YtlhdohlpilippaaDoorLg
noncomputable section
open Go Go.Lift Go.Proofs.YtlhdohlpilippaaDoorPx
theorem or8 {n b:Nat}(hn:n<72057594037927936)(hb:b<256):zu .or .u64 (zkq .u64 (n:Int) 8) (IntKind.wrap .u64 (b:Int))=((n*256+b:Nat):Int):=by
 have hwu:∀ x:Nat,x<18446744073709551616->IntKind.wrap .u64 (x:Int)=(x:Int):=by
  intro x hx;show (x:Int) % 18446744073709551616=_;omega
 have h1:zkq .u64 (n:Int) 8=((n*256:Nat):Int):=by
  unfold zkq;rw[show (min (8:Int).toNat (IntKind.bits .u64))=8 from rfl,show (n:Int)*2^8=((n*256:Nat):Int) by omega,hwu _ (by omega)]
 rw[h1,hwu b (by omega)];unfold zu;dsimp only;rw[BitVec.ofInt_natCast,BitVec.ofInt_natCast,BitVec.toNat_or,BitVec.toNat_ofNat,BitVec.toNat_ofNat,Nat.mod_eq_of_lt (show n*256<2^(IntKind.bits .u64) from by show n*256<18446744073709551616;omega),Nat.mod_eq_of_lt (show b<2^(IntKind.bits .u64) from by show b<18446744073709551616;omega)];rw[show n*256=n <<< 8 by rw[Nat.shiftLeft_eq],<- Nat.shiftLeft_add_eq_or_of_lt (show b<2^8 by omega),Nat.shiftLeft_eq,hwu _ (by omega)]
theorem z18j {N:Nat}{s:List UInt8}(hs:8<=s.length)(hN:8<N)(k0:Int->Option (List UInt8×List UInt8×Bool×Unit)):zg7 N s 0 0 k0=k0 ((zpw (s.take 8) 0:Nat):Int):=by
 unfold zg7;rw[z4w (I:=fun (v:Int×Int)=>∃ i:Nat,i<=8/\v=(((zpw (s.take i) 0:Nat):Int),(i:Int))) (m:=fun v=>8 - v.2.toNat) (R:=fun _=>k0 ((zpw (s.take 8) 0:Nat):Int)) ?_ N (0,0) ⟨0,by omega,rfl⟩ (by dsimp only;omega)];rintro v r ⟨i,hi,rfl⟩ hr;dsimp only at hr ⊢;unfold zg6;by_cases h:i<8
 . have hp:256^i<=256^7:=Nat.pow_le_pow_right (by omega) (by omega);have hv:=zsc i s (by omega);rw[zj (z3m (by omega)),zj (z2b (by omega)),Int.toNat_natCast,or8 (by omega) (z117 _),z2v (by omega),<- zq1 (by omega)];exact hr _ ⟨i+1,by omega,rfl⟩ (by dsimp only;omega)
 . rw[z1a (zaq (by omega)),show i=8 by omega]
def cutV:Option (List UInt8×List UInt8)->List UInt8×List UInt8×Bool×Unit
 | none=>([],[],false,())
 | some (a,b)=>(a,b,true,())
theorem z1gu {N:Nat}{s:List UInt8}(hs:s.length<=9223372036854775800)(hN:8<N):zh6 N s=some (cutV (zvt s)):=by
 unfold zh6 zvt;by_cases h:s.length<8
 . rw[zj (z3m (by omega)),if_pos h];rfl
 rw[z1a (zaq (by omega)),if_neg h,z18j (by omega) hN,zj (z3m (by omega)),zpc,List.length_drop];have hv:zpw (s.take 8) 0<18446744073709551616:=zsc 8 s (by omega);have hw:IntKind.wrap .u64 (((s.length - 8:Nat)):Int)=((s.length - 8:Nat):Int):=by
  show ((s.length - 8:Nat):Int) % 18446744073709551616=_;omega
 rw[hw];by_cases h2:s.length - 8<zpw (s.take 8) 0
 . rw[zj (z3m (by omega)),if_pos h2];rfl
 rw[z1a (zaq (by omega)),if_neg h2,zj (z3m (by omega)),zj (z3m (by omega)),Int.toNat_natCast,zhc,show s.length - 8=(s.drop 8).length by rw[List.length_drop],zpc];rfl
theorem z12q {N:Nat}{s:List UInt8}(hs:s.length<=9223372036854775800)(hN:s.length+9<N):z9k N s=some (zd2 s.length s):=by
 unfold z9k zfd;refine z4w (I:=fun (v:List UInt8)=>v.length<=s.length) (m:=fun v=>v.length) (R:=fun v=>some (zd2 v.length v)) ?_ N s (Nat.le_refl _) (by omega);intro v r hv hr;unfold zao;by_cases e:v=[]
 . subst e;rfl
 have e':(!(v == ([]:List UInt8)))=true:=by simpa using e
 rw[zj e',z1gu (by omega) (by omega),Option.bind_some];have hp:0<v.length:=List.length_pos_iff.2 e;obtain⟨n,hn⟩:∃ n,v.length=n+1:=⟨v.length - 1,by omega⟩
 cases hc:zvt v with
 | none=>rw[hn,zd2,if_neg e,hc];rfl
 | some p =>
   obtain⟨a,b⟩:=p;have hb:=ze5 hc;have h2:=hr b (by omega) hb;rw[hn,zd2,if_neg e,hc];show zpd (a,true,()) (r b) (some [])=some ((a,true,())::zd2 n b);rw[h2,zbh,zlu n b.length b (by omega) (by omega)]
def zy9:Option (List (List UInt8))->List (List UInt8)×Bool×Unit
 | none=>([],false,())
 | some l=>(l,true,())
theorem z10i:∀ (n:Nat) (s:List UInt8) (acc:List (List UInt8)) (f:List (List UInt8)->Option (List (List UInt8)×Bool×Unit)) (N:Nat),s.length<=n->acc.length+s.length<=100000 →
 zbe (fun (y:(List UInt8×Bool×Unit)) (v:List (List UInt8)) r=>z6t N [] false v y (fun parts_1=>r parts_1) (fun x2 x3 parts=>some (x2,(x3,()))) f) f (zd2 n s) acc =
  match zcu n s with
  | none=>some ([],false,())
  | some l=>f (acc++l)
 | 0,s,acc,f,N,h,_=>by
   have:s=[]:=List.length_eq_zero_iff.1 (by omega);subst this;simp[zd2,zcu,zbe]
 | n + 1,s,acc,f,N,h,hb=>by
   unfold zd2 zcu;by_cases e:s=[]
   . rw[if_pos e,if_pos e];simp[zbe]
   rw[if_neg e,if_neg e];cases hc:zvt s with
   | none=>rfl
   | some p =>
     obtain⟨a,b⟩:=p;have hl:=ze5 hc;dsimp only;rw[zbe];unfold z6t;dsimp only;rw[Bool.not_true,cond_false,zj (z3m (by omega))];have:=z10i n b (acc++[a]) f N (by omega) (by rw[List.length_append,List.length_singleton];omega);unfold z6t at this;rw[this];cases zcu n b with
     | none=>rfl
     | some l=>simp
theorem z11t {N:Nat}{s:List UInt8}(hs:s.length<=100000)(hN:s.length+9<N):zbf N s=some (zy9 (zgj s)):=by
 unfold zbf zh8 z6u;rw[z12q (by omega) hN,Option.bind_some,z10i s.length s [] _ N (Nat.le_refl _) (by simpa using hs)];cases h:zgj s with
 | none=>rw[show zcu s.length s=none from h];rfl
 | some l=>rw[show zcu s.length s=some l from h];rfl
end
end Go.Proofs.YtlhdohlpilippaaDoorLg
set_option linter.all false
set_option maxRecDepth 100000
namespace Go.Proofs.YtlhdohlpilippaaDoorLg
noncomputable section
open Go Go.Lift Go.Proofs.YtlhdohlpilippaaDoorPx
def z12y:Option (List (List UInt8))->List UInt8×List UInt8×Int×Unit
 | some [a,b]=>(a,b,0,())
 | _=>([],[],2,())
theorem z101 {m:List (List UInt8)}(h:m.length≠2):z12y (some m)=([],[],2,()):=by
 match m with
 | []=>rfl
 | [_]=>rfl
 | [_,_]=>exact absurd rfl h
 | _::_::_::_=>rfl
theorem z128 (N:Nat)(hN:10<N)(m:List (List UInt8))(h2:2<=m.length) :
 zah N [] [] 0 m ((m.length:Nat):Int) 0 (fun a b e=>some (a,(b,(e,()))))=some (z12y (some m)):=by
 obtain⟨a,b,l,rfl⟩:∃ a b l,m=a::b::l:=by
  match m,h2 with
  | a::b::l,_=>exact⟨a,b,l,rfl⟩
 rw[zah];refine z4w (fun v=>v=(([]:List UInt8),([]:List UInt8),(0:Int))\/v=(a,[],1)\/v=(a,b,2)) (fun v=>3 - v.2.2.toNat) (fun _=>some (z12y (some (a::b::l)))) ?_ N ([],[],0) (.inl rfl) (by simp only;omega);rintro v r (rfl|rfl|rfl) hr
 . rw[z5v];dsimp only;rw[zj (decide_eq_true (by simp only[List.length_cons];omega)),zj (by unfold inR;exact decide_eq_true ⟨by omega,by simp only[List.length_cons];omega⟩),zj (by rfl)];exact hr _ (.inr (.inl rfl)) (by simp only;decide)
 . rw[z5v];dsimp only;rw[zj (decide_eq_true (by simp only[List.length_cons];omega)),zj (by unfold inR;exact decide_eq_true ⟨by omega,by simp only[List.length_cons];omega⟩),z1a (by rfl),zj (by rfl)];exact hr _ (.inr (.inr rfl)) (by simp only;decide)
 . rw[z5v];dsimp only;cases l with
   | nil=>rw[z1a (decide_eq_false (by simp))];rfl
   | cons c l =>
     rw[zj (decide_eq_true (by simp only[List.length_cons];omega)),zj (by unfold inR;exact decide_eq_true ⟨by omega,by simp only[List.length_cons];omega⟩),z1a (by rfl),z1a (by rfl)];rfl
theorem z15w (N:Nat){n t c:List UInt8}(ho:z64 N n t=some (c,0,()))(hc:c.length<=10000)(hN:c.length+20<N):z4t N n t=some (z12y (zgj c)):=by
 rw[z4t,ho,Option.bind_some];dsimp only;rw[bne_self_eq_false,cond_false,z11t (by omega) (by omega),Option.bind_some,zak,zaj];cases hs:zgj c with
 | none=>rfl
 | some m =>
   rw[show (zy9 (some m)).2.1=true from rfl,show (zy9 (some m)).1=m from rfl,Bool.not_true,cond_false];by_cases h2:m.length<2
   . rw[decide_eq_true (show ((m.length:Nat):Int)<2 by omega),cond_true,z101 (by omega)]
   . rw[decide_eq_false (show ¬ ((m.length:Nat):Int)<2 by omega),cond_false,zai];exact z128 N (by omega) m (by omega)
def za6 (key text:List UInt8):List UInt8:=z1n [key,text]
theorem z5a (key text:List UInt8):(za6 key text).length=16+key.length+text.length:=by
 unfold za6;rw[z2e];simp;omega
theorem z1be {key text:List UInt8}(hk:key.length<=100000)(ht:text.length<=100000):zgj (za6 key text)=some [key,text] :=
 zkn [key,text] (fun p hp=>by simp only[List.mem_cons,List.not_mem_nil,or_false] at hp;rcases hp with rfl|rfl<;>omega)
theorem zw5 (k:Nat){n nonce key text:List UInt8}(hk:key.length<=100000)(ht:text.length<=100000):z45 (k+100) n nonce key text=(zco (k+100) n nonce (za6 key text)).bind fun y1=>some (y1.1,(y1.2.1,())):=by
 rw[z45,show z6g (k+100) [key,text]=some (za6 key text) from z14a k (by simp) (by have:=z5a key text;unfold za6 at this;omega),Option.bind_some]
theorem zy1 (k:Nat){n nonce key text:List UInt8}(hk:4400<=k)(hn:n.length<=30000)(h16:nonce.length=16)(hl:key.length+text.length<=1800):z45 (k+100) n nonce key text=some (z7e (k+100) n nonce (za6 key text),0,()):=by
 rw[zw5 k (by omega) (by omega),zyg k hk hn h16 (by rw[z5a];omega)];rfl
theorem zss (k:Nat){n nonce key text:List UInt8}(hk:4400<=k)(hn:n.length<=30000)(h16:nonce.length=16)(hl:key.length+text.length<=1800) :
 z4t (k+100) n (z7e (k+100) n nonce (za6 key text))=some (key,text,0,()):=by
 have hf:=zrd k (key:=n) (nonce:=nonce) (text:=za6 key text) hk hn h16 (by rw[z5a];omega);have hsl:=z7w k (key:=n) (nonce:=nonce) (text:=za6 key text) (by omega) hn h16 (by rw[z5a];omega);have hfl:=z5a key text;have ho:z64 (k+100) n (z7e (k+100) n nonce (za6 key text))=some (za6 key text,0,()):=by
  rw[zsw k hk hn (by omega) (by omega),hf.1,hf.2,cond_true]
 rw[z15w (k+100) ho (by omega) (by omega),z1be (by omega) (by omega)];rfl
def mkL (c:List UInt8):Lk:=(c,[],())
def zho (N:Nat):Tk->List (List UInt8)->Tk×Int×Unit
 | t,[]=>(t,0,())
 | t,c::l=>cond ((zxs N t c).2.1 != 0) (z1s,(zxs N t c).2.1,()) (zho N (zxs N t c).1 l)
theorem z19s {N:Nat}{t:Tk}{c:List UInt8}(h:(zxs N t c).2.1=0):(zxs N t c).1=zgd N t (mkL c)/\t.2.1.length<64/\c.length<=2048:=by
 unfold zxs at h ⊢;split
 . rename_i hc;rw[if_pos hc] at h;cases h
 . rename_i hc;exact⟨rfl,by omega,by omega⟩
theorem dloop (k:Nat)(hk:4400<=k){l:List (List UInt8)}(hl:l.length<=1000){t:Tk}(hn:t.2.1.length<=64)(ht:t.2.2.1.length=32) :
 zm5 (k+100) (([]:List UInt8),(([]:List ((List UInt8)×((List UInt8)×Unit))),(([]:List UInt8),()))) t l ((l.length:Nat):Int) 0 (fun x6 x7=>some (x6,(x7,()))) (fun t=>some (t,((0:Int),())))=some (zho (k+100) t l):=by
 rw[zm5];refine (z4w (fun v=>∃ (i:Nat) (u:Tk),v=(u,(i:Int))/\i<=l.length/\u.2.1.length<=64/\u.2.2.1.length=32) (fun v=>l.length - v.2.toNat) (fun v=>some (zho (k+100) v.1 (l.drop v.2.toNat))) ?_ (k+100) (t,0) ⟨0,t,rfl,by omega,hn,ht⟩ (by simp only;omega)).trans (by rfl);rintro v r ⟨i,u,rfl,hi,hu,hut⟩ hr;simp only[Int.toNat_natCast];rw[zm4];by_cases hlt:i<l.length
 . rw[zj (decide_eq_true (by omega)),zj (z2b hlt),Int.toNat_natCast,z12t k (by omega) (by omega) (by omega),Option.bind_some,z2k l [] i hlt,zho];cases hb:((zxs (k+100) u (l.getD i [])).2.1 != 0) with
   | true=>rfl
   | false =>
     obtain⟨e,h1,h2⟩:=z19s (bne_eq_false_iff_eq.1 hb);have hsm:zd4 (mkL (l.getD i [])):=⟨by simp only[mkL];omega,by simp[mkL]⟩
     have g2:(zg0 (k+100) u.2.2.1 (mkL (l.getD i []))).length=32:=z4u k (by omega) (by omega) hsm;have g1:(zgd (k+100) u (mkL (l.getD i []))).2.1.length<=64:=by simp only[zgd,List.length_append,List.length_singleton];omega
     have g3:(zgd (k+100) u (mkL (l.getD i []))).2.2.1.length=32:=by simp only[zgd];exact g2
     rw[<- e] at g1 g3;generalize zxs (k+100) u (l.getD i [])=y at g1 g3 ⊢;rw[cond_false,cond_false,z2v (by omega),hr _ ⟨i+1,y.1,rfl,by omega,g1,g3⟩ (by simp only;omega)];simp only[Int.toNat_natCast]
 . rw[z1a (decide_eq_false (by omega)),z6y l (by omega),zho]
theorem zrk (k:Nat)(hk:4400<=k){n t key text:List UInt8}{l:List (List UInt8)}(h:z4t (k+100) n t=some (key,text,0,()))(hl:l.length<=1000)(hkey:key.length<=30000)(ht:t.length<=8000) :
 zoa (k+100) n t l=some (zho (k+100) (t,[],z4d (k+100) key t,()) l):=by
 rw[zoa,h,Option.bind_some];dsimp only;rw[bne_self_eq_false,cond_false,zsr k (by omega) hkey ht,Option.bind_some];have hroot:(z4d (k+100) key t).length=32:=z3h k (key:=key) (text:=z1n (z6o t)) (by omega) hkey (by rw[zbx];omega);generalize z4d (k+100) key t=R at hroot ⊢;exact dloop k hk hl (t:=(t,[],R,())) (Nat.zero_le _) hroot
theorem zs5 (k:Nat)(hk:600<=k):∀ (l:List (List UInt8)) (t:Tk),t.2.1.length+l.length<=64->(∀ c∈l,c.length<=2048) →
 zho (k+100) t l=((t.1,t.2.1++l.map mkL,zan (k+100) t.2.2.1 (l.map mkL),()),0,())
 | [],t,_,_=>by
   obtain⟨a,b,c,u⟩:=t;cases u;simp[zho,zzn]
 | c::l,t,h1,h2=>by
   have hc:=h2 c List.mem_cons_self;simp only[List.length_cons] at h1;have e:zxs (k+100) t c=(zgd (k+100) t (mkL c),0,()):=by unfold zxs;rw[if_neg (by omega)];rfl
   rw[zho,e];dsimp only;rw[bne_self_eq_false,cond_false,zs5 k hk l _ (by simp only[zgd,List.length_append,List.length_singleton];omega) (fun d hd=>h2 d (List.mem_cons_of_mem _ hd))];simp only[zgd,List.map_cons,List.append_assoc,List.singleton_append,zny]
end
end Go.Proofs.YtlhdohlpilippaaDoorLg
