import Derived.Test.YtlhdohlpilippaaDoorLgL
set_option linter.unusedSimpArgs false
set_option linter.unusedVariables false
set_option linter.all false
namespace Go.Lift
noncomputable section
section
variable {P:Program} {E:Env} {c:Ctx} {st st':List A} {fp fp':FP} {a:Act} {w w':World} {S:Hp} {ob:Nat->List Nat} {o:Oper}
theorem zug {n:Int}(h0:0<=n)(h1:n<=9223372036854775807):IntKind.i64.wrap n=n:=by
 simp only[IntKind.wrap,IntKind.signed,IntKind.bits];simp;omega
theorem zmw {t el:TypeId}{l k:Operand}{e ee:TyI}{m n:Int}(ho:o.op=.makeSlice t l k)(hb:Base P E c)(hs:SimD c st a w S ob)(he:E.ty t=some e)(hd:e.desc=.slice el)(hee:E.ty el=some ee)
 (hpos:0<ee.size) (hm0:0<=m) (hmn:m<=n) (hby:n*(ee.bytes:Int)<=281474976710656) (hn63:n<=9223372036854775807) (el1:a.eval l=.int .i64 m) (el2:a.eval k=.int .i64 n)
 (h4:zn E (lay o.dst (.row ee.t (List.replicate m.toNat ee.zero))) st fp=some ((),st',fp')):Good P c o a w st':=by
 obtain⟨z,hz,hzv⟩:=z58 (P:=P) (w:=w) (hb.tyOk hee);obtain⟨inf,hinf,his,hib,_⟩:=(hb.tyOk hee).info;have hsz:=(hb.tyOk hee).size
 let cells:Array Value:=(Array.range (n.toNat*ee.size)).map (z.cells[· % z.cells.size]!)
 have hrep:=zdl (hzv.mono (zc3 S)) (by omega:0<ee.t.size) n.toNat;rw[hsz] at hrep;have hspl:List.replicate n.toNat ee.zero=List.replicate m.toNat ee.zero++List.replicate (n.toNat - m.toNat) ee.zero:=by
  rw[List.replicate_append_replicate];congr 1;omega
 obtain⟨_,hall⟩:=hrep;rw[hspl] at hall;obtain⟨c1,c2,hc12,hall1,_⟩:=All.split hall;have hl1:=All.length (Rd.length ee.t) _ _ hall1;obtain⟨g1,g2,g3,g4⟩:=hs.pushed (.cells cells el);have hcsz:cells.size=n.toNat*ee.size:=by simp[cells]
 refine zb (v:=.slice (some ⟨w.heap.size,0,none⟩) m.toNat n.toNat) (w':=pushed w (.cells cells el)) ?_ (z11 h4 hb g1 (o':=[w.heap.size]) (.inr ⟨w.heap.size,n.toNat,cells,el,(0,0),rfl,by simp,z4x _ _,ze4 _,by rw[hcsz,hsz],by simp;omega,?_⟩) (fun b e=>by simp at e;subst e;exact⟨g2,g3,g4⟩))
 . have hw1:=zug hm0 (by omega:m<=9223372036854775807);have hw2:=zug (by omega:0<=n) hn63;have hn0:¬ n<0:=by omega
   have hb1:¬ (281474976710656<(ee.bytes:Int)*n):=by rw[Int.mul_comm];omega
   by_cases h0:n.toNat*ee.size=0
   . have hcells:cells=#[]:=by apply Array.eq_empty_of_size_eq_zero;rw[hcsz,h0]
     simp[execOp,ho,Instr.makeSlice,run_underlying ((hb.tyOk he).und.trans (by rw[hd])),el1,el2,asInt,asIntOf,z40 hinf,hib,hw1,hw2,hb1,hn0,show ¬ m<0 by omega,show ¬ n<m by omega,z13 (hb.tyOk hee),h0,zb5,hcells];rw[show Array.range 0=#[] by apply Array.eq_empty_of_size_eq_zero;simp,Array.map_empty]
   . simp[execOp,ho,Instr.makeSlice,run_underlying ((hb.tyOk he).und.trans (by rw[hd])),el1,el2,asInt,asIntOf,z40 hinf,hib,hw1,hw2,hb1,hn0,show ¬ m<0 by omega,show ¬ n<m by omega,z13 (hb.tyOk hee),h0,zb5,hz,cells]
 . have:cells.toList.take ((List.replicate m.toNat ee.zero).length*ee.t.size)=c1:=by
    change cells.toList=c1++c2 at hc12;rw[hc12,<- hl1,List.take_left]
   rw[this];exact⟨hall1,fun q hq=>absurd hq ((hb.tyOk hee).notByt q)⟩
theorem zmv {t:TypeId} {l k:Operand} (ho:o.op=.makeSlice t l k) (h:zn E (z1x E o) st fp=some ((),st',fp')) (hb:Base P E c) (hs:SimD c st a w S ob):Good P c o a w st':=by
 simp only[z1x,ho] at h;unfold zj7 at h;obtain⟨e,he,h0⟩:=z25 h;clear h;split at h0
 . rename_i el hd;obtain⟨ee,hee,h1⟩:=z25 h0;obtain⟨A,fp1,h2,hA,hAo,hAd,hAr⟩:=zw h1 hs (hb.globS hs);obtain⟨B,fp2,h3,hB,hBo,hBd,hBr⟩:=zw h2 hs (hb.globS hs);clear h0 h1 h2;split at h3
   . rename_i m n;split at h3
     . rename_i hpos;obtain⟨hc,h4⟩:=zr h3;obtain⟨hm0,hmn,hby,hn63⟩:=of_decide_eq_true hc;exact zmw (m:=m) (n:=n) ho hb hs he hd hee (by simpa using hpos) hm0 hmn hby hn63 hA.1.int_inv hB.1.int_inv h4
     . exact (z6 h3).elim
   . exact (z6 h3).elim
 . exact (z6 h0).elim
structure Src (P:Program) (w:World) (S:Hp) (t:T) (v:Value) (ys:List t.den):Prop where
 len:(Builtin.lenOf v).run P w=.ok ys.length w
 pre:∀ n,n<=ys.length->∃ cs:Array Value,All (Rd S t) (ys.take n) cs.toList/\∀ w':World,w'.heap=w.heap->(Builtin.firstCells t.size n v).run P w'=.ok cs w'
theorem Src.cells {S:Hp}{t:T}{v:Value}{ys:List t.den}(h:Src P w S t v ys) :
 ∃ cs:Array Value,All (Rd S t) ys cs.toList/\∀ w':World,w'.heap=w.heap->(Builtin.firstCells t.size ys.length v).run P w'=.ok cs w':=by
 have:=h.pre ys.length (Nat.le_refl _)
 rwa [List.take_length] at this
theorem zo4 {P:Program}{w:World}{n:Nat}(ad:Option Addr)(m:Nat:=0):(Builtin.firstCells n 0 (.slice ad 0 0)).run P w=.ok #[] w:=by
 cases ad with
 | none=>rfl
 | some b=>simp[Builtin.firstCells,loadCells,loadCellsFrom]
theorem Src.nil {S:Hp}{t:T}{v:Value}(hl:(Builtin.lenOf v).run P w=.ok 0 w)(h:∀ w':World,(Builtin.firstCells t.size 0 v).run P w'=.ok #[] w'):Src P w S t v [] :=
 ⟨hl,fun n hn=>by
  have:n=0:=by simpa using hn
  subst this;exact⟨#[],rfl,fun w' _=>h w'⟩⟩
theorem zus {S:Hp}{t:T}{ys:List t.den}{b off cap:Nat}{c1:List Value}(hl:∀ w':World,w'.heap=w.heap->Lies (hp w') b off c1)(hall:All (Rd S t) ys c1) :
 Src P w S t (.slice (some ⟨b,off,none⟩) ys.length cap) ys:=by
 refine⟨by simp[Builtin.lenOf],fun n hn=>?_⟩;have e:ys=ys.take n++ys.drop n:=(List.take_append_drop n ys).symm;rw[e] at hall;obtain⟨d1,d2,hc,h1,h2⟩:=All.split hall;refine⟨d1.toArray,by simpa using h1,fun w' hw'=>?_⟩;have hl':=zc7 (d0:=[]) (d1:=d1) (d2:=d2) (hl w' hw') hc;have:=z2g (P:=P) hl';rw[All.length (Rd.length t) _ _ h1,List.length_take,Nat.min_eq_left hn] at this;simpa[Builtin.firstCells] using this
theorem zy8 {S:Hp}{t:T}{ys:List t.den}{v:Value}(hS:Sub S (hp w))(h:VR S (.sl t) ys v):Src P w S t v ys:=by
 obtain⟨ad,cap,rfl,hc,hm⟩:=VR.sl_inv h;rcases hm with rfl|⟨b,off,c1,rfl,hl,hall⟩
 . refine Src.nil (by simp[Builtin.lenOf]) fun w'=>?_
   cases ad with
   | none=>rfl
   | some b=>simp[Builtin.firstCells,loadCells,loadCellsFrom]
 . exact zus (fun w' hw'=>by rw[show hp w'=hp w by unfold hp;rw[hw']];exact hl.mono hS) hall
theorem zhw {t:T}{ys:List t.den}{v:Value}{o:List Nat}(h:RowRel (hp w) S t ys v o):Src P w S t v ys:=by
 rcases h with⟨rfl,⟨ad,hv,_⟩,_⟩|⟨b,cap,cs,E',fr,hob,hv,hcs,hfr,hsz,hle,hall,_⟩
 . rw[hv];exact Src.nil (by simp[Builtin.lenOf]) fun _=>zo4 ad
 . rw[hv];exact zus (fun w' hw'=>⟨cs,E',fr,[],cs.toList.drop (ys.length*t.size),by unfold hp;rw[hw'];exact hcs,by simp,rfl⟩) hall
theorem src_row (hs:SimD c st a w S ob){r:Nat}{t:T}{ys:List t.den}(h:st.getD r .dead=.row t ys):Src P w S t (tv a r) ys:=zhw (hs.row_at h)
theorem z15p (t:T)(s:List UInt8)(ht:t=.int .u8):∀ (ys:List t.den),ys=ht ▸ z4p s->Src P w S t (.string ⟨⟨s⟩⟩) ys:=by
 subst ht;rintro ys rfl;refine⟨by simp[Builtin.lenOf,zbq,z4p],fun n hn=>⟨(((z4p s).take n).map (Value.int .u8)).toArray,zgc _,fun w' _=>?_⟩⟩;have:(⟨⟨s⟩⟩:ByteArray).extract 0 n=⟨⟨s.take n⟩⟩:=by
  apply ByteArray.ext;rw[ByteArray.data_extract];apply Array.toList_inj.1;simp[List.extract]
 simp[Builtin.firstCells,z4p,this];rfl
theorem zcn {t u:T}{ys:List t.den}{zs:List u.den}(h:cast (.sl t) (.sl u) ys=some zs):∃ e:t=u,e ▸ ys=zs:=by
 obtain⟨e,e'⟩:=z12 h;cases e;exact⟨rfl,e'⟩
theorem zxy (t:T)(n:Nat)(xs:List t.den):(unRw t xs).take n=unRw t (xs.take n):=by
 cases t<;>first|rfl|exact (List.map_take (f:=unN)).symm
theorem Src.unRw {S:Hp}{t:T}{v:Value}{ys:List t.den}(h:Src P w S t v ys):Src P w S (unT t) v (unRw t ys):=by
 refine⟨by rw[z8z];exact h.len,fun n hn=>?_⟩;rw[z8z] at hn;obtain⟨cs,h1,h2⟩:=h.pre n hn;rw[zxy,zeg];exact⟨cs,h1.unRw,h2⟩
theorem zut {α:Type} {r:α×List A×FP} {t:T} {A:Lift.A} {v:Value} {k:List t.den->Cmd α} (h:zn E (srcK t A k) st fp=some r) (hs:SimD c st a w S ob) (hA:ARel (hp w) S (tv a) A v []) :
 ∃ ys fp',zn E (k ys) st fp'=some r/\Src P w S t v ys:=by
 unfold srcK at h;split at h
 . rename_i k;refine⟨[],fp,h,?_⟩;rw[hA.1];exact Src.nil (by simp[Builtin.lenOf]) fun _=>rfl
 . rename_i s k;have ex:v=.string ⟨⟨s⟩⟩:=hA.1.str_inv;rw[ex];exact⟨_,fp,h,z15p _ s rfl _ rfl⟩
 . unfold zr0 at h;split at h
   . rename_i u x;dsimp only at h;split at h
     . rename_i u' ys heq;cases heq;split at h
       . rename_i zs hz;obtain⟨e,e'⟩:=zcn hz;subst e;subst e';exact⟨_,fp,h,(zy8 hs.sub hA.1).unRw⟩
       . exact (z6 h).elim
     . exact (z6 h).elim
   . rename_i s;obtain⟨fp1,h⟩:=zy h;split at h
     . rename_i u xs hy;dsimp only at h;split at h
       . rename_i zs hz;obtain⟨e,e'⟩:=zcn hz;subst e;subst e';rw[hA.1];exact⟨_,fp1,h,(zhw (hs.row_at hy)).unRw⟩
       . exact (z6 h).elim
     . exact (z6 h).elim
   . obtain⟨t',x,u,xs,fp1,h,hy,hin,hn,hf⟩:=z74 h;dsimp only at h;split at h
     . rename_i zs hz;obtain⟨e,e'⟩:=zcn hz;subst e;subst e';obtain⟨b,cs,E',fr,b0,b1,b2,c0,c2,hob,hv,hcs,hfr,hc,hl,hrow,hput⟩:=hs.cel_row hA hy hin hn hf;exact⟨_,fp1,h,(zhw hrow).unRw⟩
     . exact (z6 h).elim
   . exact (z6 h).elim
theorem SimD.turn (h:SimD c st a w S ob){b:Nat}(hb:∀ i,b∉ob i)(hS:S b=none)(hk:∃ o,hp w b=some o/\∀ l,o ≠ .deferred l)(hsame:∀ b',b'≠b->hp w' b'=hp w b')(hf:WF c.w0 c.B0 w'):SimD c st a w' S ob:=by
 refine⟨h.defers.turn fun D h1 h2 h3 h4=>⟨?_,h2,h3⟩,h.size,?_,h.refs,h.out,h.inj,h.nd,h.hid,?_,h.mono,h.fresh,h.newS,h.lent,hf⟩
 . rw[hsame D (fun e=>?_)]
   . exact h1
   . subst e;obtain⟨o,ho,hne⟩:=hk;rw[h1] at ho;cases ho;exact hne _ rfl
 . intro i x hx;refine (h.rel i x hx).mono (Sub.refl _) (fun b' hb'=>hsame b' (fun e=>hb i (by rw[<- e];exact hb'))) (fun _ _=>rfl) (fun s hs b' hb'=>hsame b' (fun e=>?_));subst e;exact hb s (h.main hx (A.cell_refs hs) hb')
 . intro b' o hbo;rw[hsame b' (fun e=>by subst e;rw[hS] at hbo;simp at hbo)];exact h.sub b' o hbo
theorem zr8 {el:TypeId}{t:T}(hnb:∀ q,t ≠ .byt q){cells:Array Value}{xs:List t.den}{cap:Nat}{c1 c2:List Value}(hs:SimD c st a w S ob)(hc:cells.toList=c1++c2)(hall:All (Rd S t) xs c1)
 (hsz:cells.size=cap*t.size) (hle:xs.length<=cap) :
 SimD c st a (pushed w (.cells cells el)) S ob/\(∀ j,w.heap.size∉ob j)/\S w.heap.size=none/\(c.B0 w.heap.size\/c.w0.heap.size<=w.heap.size) ∧
  ARel (hp (pushed w (.cells cells el))) S (tv a) (.row t xs) (.slice (some ⟨w.heap.size,0,none⟩) xs.length cap) [w.heap.size]:=by
 obtain⟨h1,h2,h3,h4⟩:=hs.pushed (.cells cells el);have hlen:=All.length (Rd.length t) _ _ hall;refine⟨h1,h2,h3,h4,.inr ⟨w.heap.size,cap,cells,el,(0,0),rfl,rfl,z4x _ _,ze4 _,hsz,hle,?_⟩⟩;rw[hc,<- hlen,List.take_left];exact⟨hall,fun q hq=>absurd hq (hnb q)⟩
theorem zmo {ty xT el:TypeId}{ee:TyI}{base:Option Addr}{n m cap:Nat}{v:Value}{old new:Array Value}(hu:P.underlying ty=some (.slice el))(hx:∃ d,P.underlying xT=some d/\∀ k,d ≠ .int k)
 (hee:TyOk P el ee) (hlen:(Builtin.lenOf v).run P w=.ok m w) (hnew:∀ w':World,w'.heap=w.heap->(Builtin.firstCells ee.size m v).run P w'=.ok new w')
 (hold:∀ w':World,w'.heap=w.heap->(Builtin.firstCells ee.size n (.slice base n cap)).run P w'=.ok old w') (hb0:0<ee.bytes) (hb1:(n+m)*ee.bytes<=70368744177664) (hgrow:cap<n+m) :
 ∃ newCap rest,n+m<=newCap/\rest.size=(newCap - (n+m))*ee.size ∧
   (Builtin.append_ #[ty,xT] o.type #[.slice base n cap,v]).run P w=.ok (.slice (some ⟨w.heap.size,0,none⟩) (n+m) newCap) (pushed { w with drawn:=w.drawn+1 } (.cells (old++new++rest) el)):=by
 obtain⟨inf,hinf,his,hib,z,hz,hzv⟩:=hee.info;obtain⟨d,hd,hdk⟩:=hx;have hzc:z.cells.size=ee.size:=by have:=hzv.cells.length;rw[hee.size] at this;simpa using this
 let newCap:=(n+m)+w.tape w.drawn (.appendCap (n+m) cap el) % (2^63 - (n+m))
 refine⟨newCap,Builtin.zeroCells z.cells (newCap - (n+m)),Nat.le_add_right _ _,by simp[Builtin.zeroCells,hzc],?_⟩;have hfit:=growslice_fits (bytes:=ee.bytes) hgrow (by omega);have h63:¬ (IntKind.i64.max<((n+m:Nat):Int)/\(False\/ee.bytes=0)):=by
  intro h;rcases h.2 with h|h
  . exact h
  . omega
 have hzr:∀ w':World,(zeroValue el).run P w'=.ok z w':=fun w'=>by simp[zeroValue,z40 hinf,hz]
 have hzeros:(match d with | .int _=>true|_=>false)=false:=by
  cases d<;>first|rfl|exact absurd rfl (hdk _)
 have hn:=hnew { w with drawn:=w.drawn+1 } rfl;have hol:=hold { w with drawn:=w.drawn+1 } rfl;have hsz:∀ w':World,(sizeOf el).run P w'=.ok ee.size w':=fun w'=>z13 hee
 have hti:∀ w':World,(typeInfo el).run P w'=.ok inf w':=fun w'=>z40 hinf
 simp only[Builtin.append_,List.getElem?_toArray,List.getElem?_cons_zero,List.getElem?_cons_succ,Sem.run_bind,run_underlying hu,Result.andThen_ok,hsz,run_underlying hd,Sem.run_pure];cases d<;>first
  | exact absurd rfl (hdk _)
  | (simp only[Bool.false_eq_true,if_false,Sem.run_bind,Sem.run_pure,Result.andThen_ok]
     rw[hlen];simp only[Result.andThen_ok,if_neg (show ¬ (n+m<=cap) by omega),Bool.not_false,if_true,Bool.false_eq_true,if_false,Sem.run_bind,hti,Result.andThen_ok,hib,Sem.run_ite,Bool.false_eq_true];rw[if_neg h63,if_neg (by simpa using hfit)];simp only[Sem.run_bind,run_choose,Question.forced,Bool.false_eq_true,if_false,Result.andThen_ok,Question.cut,hti,run_askRoom,hol,hn,hzr,zb5,Sem.run_pure];rfl)
theorem zuc {ty xT el:TypeId}{ee:TyI}{b n m cap:Nat}{v:Value}{new:Array Value}{cs:Array Value}{E':TypeId}{fr:Nat×Nat}(hu:P.underlying ty=some (.slice el))(hx:∃ d,P.underlying xT=some d/\∀ k,d ≠ .int k)
 (hee:TyOk P el ee) (hlen:(Builtin.lenOf v).run P w=.ok m w) (hnew:(Builtin.firstCells ee.size m v).run P w=.ok new w) (hsz:new.size=m*ee.size) (hone:∀ u∈new.toList,u.oneCell'=true)
 (hcs:hp w b=some (.cells cs E' fr)) (hfr:Free cs fr) (hcap:cs.size=cap*ee.size) (hroom:n+m<=cap) :
 ∃ cs' c2,(Builtin.append_ #[ty,xT] o.type #[.slice (some ⟨b,0,none⟩) n cap,v]).run P w=.ok (.slice (some ⟨b,0,none⟩) (n+m) cap) (z19 w b (.cells cs' E' fr)) ∧
   cs'.toList=cs.toList.take (n*ee.size)++(new.toList++c2)/\cs'.size=cs.size:=by
 obtain⟨d,hd,hdk⟩:=hx;have hle:(n+m)*ee.size<=cs.size:=by rw[hcap];exact Nat.mul_le_mul_right _ hroom
 have hadd:(n+m)*ee.size=n*ee.size+m*ee.size:=Nat.add_mul _ _ _;have e:cs.toList=cs.toList.take (n*ee.size)++((cs.toList.drop (n*ee.size)).take (m*ee.size)++cs.toList.drop ((n+m)*ee.size)):=by
  conv=>lhs;rw[<- List.take_append_drop (n*ee.size) cs.toList]
  congr 1
  conv=>lhs;rw[<- List.take_append_drop (m*ee.size) (cs.toList.drop (n*ee.size))]
  rw[List.drop_drop,hadd]
 obtain⟨w',cs',hrun,hcs',hw'⟩:=z2w (P:=P) new.toList 0 (n*ee.size) cs w _ _ _ hcs hfr e (by simp;omega) (by simp;omega) hone;refine⟨cs',_,?_,hcs',?_⟩
 . subst hw';simp only[Builtin.append_,List.getElem?_toArray,List.getElem?_cons_zero,List.getElem?_cons_succ,Sem.run_bind,run_underlying hu,Result.andThen_ok,z13 hee,run_underlying hd,Sem.run_pure];cases d<;>first
    | exact absurd rfl (hdk _)
    | (simp only[Bool.false_eq_true,if_false,Sem.run_bind]
       rw[hlen];simp only[Result.andThen_ok,if_pos hroom,Bool.not_false,if_true,Sem.run_bind,hnew,z65,Nat.zero_add,hrun,Sem.run_pure])
 . have h1:=congrArg List.length hcs';have h2:=congrArg List.length e;simp at h1 h2;omega
def z13j (h:Hp)(v:Value)(q:Nat)(o:List Nat):Prop:=(∀ b n cap,v=.slice (some ⟨b,0,none⟩) n cap->∃ cs fr,h b=some (.cells cs q fr))/\(o=[]->v=.slice none 0 0)
theorem RowRel.byt {h S:Hp} {q:Nat} {xs:List Int} {v:Value} {o:List Nat} (hx:RowRel h S (.byt q) xs v o):RowRel h S (.int .u8) xs v o/\z13j h v q o:=by
 rcases hx with⟨e1,e2,e3⟩|⟨b,cap,cs,E,fr,e,e1,e2,h1,h2,h3,h4,h5⟩
 . obtain⟨ad,e2,e4⟩:=e2;have e5:=e4 _ rfl;subst e5;constructor
   . exact .inl ⟨e1,⟨none,e2,fun q hq=>by cases hq⟩,e3⟩
   . constructor
     . intro b n cap hv;rw[e2] at hv;cases hv
     . exact fun _=>e2
 . have:=h5 q rfl;subst this;refine⟨.inr ⟨b,cap,cs,E,fr,e,e1,e2,h1,h2,h3,h4,fun q hq=>by cases hq⟩,⟨fun b' n cap' hv=>?_,fun h=>by rw[e] at h;cases h⟩⟩;rw[e1] at hv;cases hv;exact⟨cs,fr,e2⟩
theorem RowRel.ofByt {h S:Hp}{q:Nat}{xs:List Int}{v:Value}{o:List Nat}(hx:RowRel h S (.int .u8) xs v o)(he:z13j h v q o):RowRel h S (.byt q) xs v o:=by
 rcases hx with⟨e1,e2,e3⟩|⟨b,cap,cs,E,fr,e,e1,e2,h1,h2,h3,h4,h5⟩
 . exact .inl ⟨e1,⟨none,he.2 e3,fun _ _=>rfl⟩,e3⟩
 . obtain⟨cs',fr',hq⟩:=he.1 b _ _ e1;rw[e2] at hq;cases hq;exact .inr ⟨b,cap,cs,q,fr,e,e1,e2,h1,h2,h3,h4,fun q' hq'=>by cases hq';rfl⟩
theorem zeu {ty xT el:TypeId} {ee:TyI} {xs ys:List ee.t.den} {v u:Value} {bs:List Nat} (hu:P.underlying ty=some (.slice el)) (hx:∃ d,P.underlying xT=some d/\∀ k,d ≠ .int k)
 (hok:TyOk P el ee) (hby:0<ee.bytes) (hs:SimD c st a w S ob) (hrow:RowRel (hp w) S ee.t xs v bs) (hbs:∀ k∈bs,(∀ i,k∉ob i)/\S k=none/\(c.B0 k\/c.w0.heap.size<=k)) (hsrc:Src P w S ee.t u ys)
 (hc:(xs.length+ys.length)*ee.bytes<=70368744177664) :
 ∃ v' w' bs',(Builtin.append_ #[ty,xT] o.type #[v,u]).run P w=.ok v' w'/\SimD c st a w' S ob/\ARel (hp w') S (tv a) (.row ee.t (xs++ys)) v' bs'/\(∀ k∈bs',(∀ i,k∉ob i)/\S k=none/\(c.B0 k\/c.w0.heap.size<=k))/\bs'.Nodup/\(z13j (hp w) v el bs->z13j (hp w') v' el bs'):=by
 have hsz:=hok.size;obtain⟨new,hnall,hnew'⟩:=hsrc.cells;rw[hsz] at hnew';have hnew:=hnew' w rfl;have hnl:=All.length (Rd.length ee.t) _ _ hnall;have hns:new.size=ys.length*ee.size:=by rw[<- hsz];simpa using hnl
 have hdr:∀ {st:List Lift.A} {ob:Nat->List Nat},SimD c st a w S ob->SimD c st a { w with drawn:=w.drawn+1 } S ob:=fun hs=>hs.world (Sub.refl _) ⟨hs.frame.size,hs.frame.same,hs.frame.tape,hs.frame.os,hs.frame.output⟩
 rcases hrow with⟨hx0,⟨ad,hv,hadq⟩,hob⟩|⟨b,cap,cs,E',fr,hob,hv,hcs,hfr,hcap,hle',hall,hEq⟩
 . -- an empty row,no block
   subst hx0;rw[hv];by_cases hy0:ys.length=0
   . have : ys=[]:=List.length_eq_zero_iff.1 hy0;subst this;have hn0:new=#[]:=by apply Array.eq_empty_of_size_eq_zero;rw[hns];simp
     subst hn0;refine⟨.slice ad 0 0,w,[],?_,hs,.inl ⟨rfl,⟨_,rfl,hadq⟩,rfl⟩,(fun k hk=>by cases hk),.nil,fun he=>by rw[<- hob];exact he⟩;obtain⟨d,hd',hdk⟩:=hx;have hl:=hsrc.len;simp only[List.length_nil] at hl hnew;simp only[Builtin.append_,List.getElem?_toArray,List.getElem?_cons_zero,List.getElem?_cons_succ,Sem.run_bind,run_underlying hu,Result.andThen_ok,z13 hok,run_underlying hd',Sem.run_pure];cases d<;>first
      | exact absurd rfl (hdk _)
      | (simp only[Bool.false_eq_true,if_false,Sem.run_bind]
         rw[hl];simp only[Result.andThen_ok,Nat.add_zero,Nat.le_refl,if_true,Bool.not_false,Sem.run_bind,hnew,Sem.run_pure];cases ad<;>simp[storeCells])
   . obtain⟨nc,rest,hnc,hrest,hr⟩:=zmo (o:=o) (base:=ad) (n:=0) (cap:=0) (old:=#[]) hu hx hok hsrc.len hnew' (fun w' _=>zo4 ad) hby (by simpa using hc) (by omega);obtain⟨g1,g2,g3,g4,g5⟩:=zr8 (el:=el) hok.notByt (cap:=nc) (cells:=#[]++new++rest) (c1:=new.toList) (c2:=rest.toList) (hdr hs) (by simp) hnall (by simp[hns,hrest,hsz];rw[<- Nat.add_mul];congr 1;omega) (by omega);exact⟨_,_,_,hr,g1,by simpa using g5,(fun k hk=>by simp at hk;subst hk;exact⟨g2,g3,g4⟩),by simp,fun _=>⟨fun b n cap hv=>by cases hv;exact⟨_,_,z4x _ _⟩,fun h=>by cases h⟩⟩
 . rw[hv];have hxl:=All.length (Rd.length ee.t) _ _ hall;rw[hsz] at hcap hall hxl;obtain⟨hobb,hSb,hfb⟩:=hbs b (by simp[hob]);by_cases hroom:xs.length+ys.length<=cap
   . obtain⟨cs',c2,hr,hcs',hsz'⟩:=zuc (o:=o) hu hx hok hsrc.len hnew hns (All.cells (Rd.ones ee.t) _ _ hnall) hcs hfr hcap hroom;have ht:=hs.turn (w':=z19 w b (.cells cs' E' fr)) hobb hSb ⟨_,hcs,fun l h=>by cases h⟩ (fun b' hne=>zo hne) (hs.frame.setObj hfb _);refine⟨_,_,[b],hr,ht,.inr ⟨b,cap,cs',E',fr,rfl,by simp,z1y hcs,hfr.of_size hsz',by rw[hsz',hcap,hsz],by simpa using hroom,?_⟩,(fun k hk=>by simp at hk;subst hk;exact⟨hobb,hSb,hfb⟩),by simp,fun he=>⟨fun b' n cap' hv=>?_,fun h=>by cases h⟩⟩
     rotate_left
     . cases hv;obtain⟨cs2,fr2,h2⟩:=he.1 b _ _ rfl;rw[hcs] at h2;cases h2;exact⟨_,_,z1y hcs⟩
     have happ:=All.append hall hnall;have hl2:(xs++ys).length*ee.t.size=(cs.toList.take (xs.length*ee.size)++new.toList).length:=by
      rw[List.length_append,List.length_append,hxl,hnl,Nat.add_mul,hsz]
     rw[hcs',<- List.append_assoc,hl2,List.take_left];exact⟨happ,fun q hq=>absurd hq (hok.notByt q)⟩
   . obtain⟨nc,rest,hnc,hrest,hr⟩:=zmo (o:=o) (base:=some ⟨b,0,none⟩) (n:=xs.length) (cap:=cap) (old:=(cs.toList.take (xs.length*ee.size)).toArray) hu hx hok hsrc.len hnew' (fun w' hw'=>by
      have hl:Lies (hp w') b 0 (cs.toList.take (xs.length*ee.size)):=⟨cs,E',fr,[],cs.toList.drop (xs.length*ee.size),by unfold hp;rw[hw'];exact hcs,by simp,rfl⟩
      have:=z2g (P:=P) hl;rw[hxl] at this;simpa[Builtin.firstCells] using this) hby hc (by omega)
     obtain⟨g1,g2,g3,g4,g5⟩:=zr8 (el:=el) hok.notByt (cap:=nc) (cells:=(cs.toList.take (xs.length*ee.size)).toArray++new++rest) (c2:=rest.toList) (hdr hs) (by simp) (All.append hall hnall) (by
      simp only[Array.size_append,List.size_toArray,hxl,hns,hrest,hsz];rw[<- Nat.add_mul,<- Nat.add_mul];congr 1;omega) (by simpa using hnc)
     exact⟨_,_,_,hr,g1,by simpa using g5,(fun k hk=>by simp at hk;subst hk;exact⟨g2,g3,g4⟩),by simp,fun _=>⟨fun b n cap hv=>by cases hv;exact⟨_,_,z4x _ _⟩,fun h=>by cases h⟩⟩
theorem Src.cast {t u:T}{v:Value}{ys:List t.den}(e:t=u)(h:Src P w S t v ys):Src P w S u v (e ▸ ys):=by subst e;exact h
theorem zxi {ty xT el:TypeId}{ee:TyI}{xs ys:List Int}{v u:Value}{bs:List Nat}(hu:P.underlying ty=some (.slice el))(hx:∃ d,P.underlying xT=some d/\∀ k,d ≠ .int k)
 (hok:TyOk P el ee) (ht:ee.t=.int .u8) (hby:0<ee.bytes) (hs:SimD c st a w S ob) (hrow:RowRel (hp w) S (.byt el) xs v bs) (hbs:∀ k∈bs,(∀ i,k∉ob i)/\S k=none/\(c.B0 k\/c.w0.heap.size<=k)) (hsrc:Src P w S (.int .u8) u ys)
 (hc:(xs.length+ys.length)*ee.bytes<=70368744177664) :
 ∃ v' w' bs',(Builtin.append_ #[ty,xT] o.type #[v,u]).run P w=.ok v' w'/\SimD c st a w' S ob/\ARel (hp w') S (tv a) (.row (.byt el) (xs++ys)) v' bs'/\(∀ k∈bs',(∀ i,k∉ob i)/\S k=none/\(c.B0 k\/c.w0.heap.size<=k))/\bs'.Nodup:=by
 obtain⟨hr8,hel⟩:=hrow.byt;obtain⟨d,sz,by_,t,z,cm⟩:=ee;dsimp only at ht;subst ht;obtain⟨v',w',bs',h1,h2,h3,h4,h5,h6⟩:=zeu (o:=o) (ee:=⟨d,sz,by_,.int .u8,z,cm⟩) (xs:=xs) (ys:=ys) hu hx hok hby hs hr8 hbs hsrc hc;exact⟨v',w',bs',h1,h2,RowRel.ofByt h3 (h6 hel),h4,h5⟩
theorem zud {ty xT:TypeId} {s x:Operand} (ho:o.op=.call { callee:=.builtin .append,args:=#[s,x],argTypes:=#[ty,xT] })
 (h:zn E (zmp E ty xT s x o.dst) st fp=some ((),st',fp')) (hb:Base P E c) (hs:SimD c st a w S ob):Good P c o a w st':=by
 unfold zmp at h;obtain⟨e,he,h0⟩:=z25 h;obtain⟨ex,hex,h1⟩:=z25 h0;clear h h0;split at h1
 . rename_i el hd;obtain⟨ee,hee,h2⟩:=z25 h1;clear h1;split at h2
   . rename_i hck;obtain⟨hck1,hck2⟩:=z7 hck;obtain⟨hby,hle⟩:=z7 hck1;have hby:0<ee.bytes:=by simpa using hby
     obtain⟨A,fp1,h3,hA,hAo,hAd,hAr⟩:=zw h2 hs (hb.globS hs);obtain⟨B,fp2,h4,hB,hBo,hBd,hBr⟩:=zw h3 hs (hb.globS hs);obtain⟨ys,fp3,h5,hsrc⟩:=zut (P:=P) h4 hs hB;clear h2 h3 h4;have hu:P.underlying ty=some (.slice el):=(hb.tyOk he).und.trans (by rw[hd]);have hx:∃ d,P.underlying xT=some d/\∀ k,d ≠ .int k:=by
      refine⟨ex.desc,(hb.tyOk hex).und,fun k e=>?_⟩;rw[e] at hck2;simp at hck2
     have hok:=hb.tyOk hee;have hrun:∀ {v:Value} {w':World},(Builtin.append_ #[ty,xT] o.type #[a.eval s,a.eval x]).run P w=.ok v w'->(execOp a.eval o).run P w=.ok (.value v) w':=by
      intro v w' hv;simp[execOp,ho,resolve,invoke,builtin,hv]
     split at h5
     . -- nil
       obtain⟨hc,h6⟩:=zr h5;have hc:=of_decide_eq_true hc;obtain⟨v',w',bs',hr,hs',hA',hbs',hnd',_⟩:=zeu (o:=o) (xs:=[]) (bs:=[]) hu hx hok hby hs (.inl ⟨rfl,⟨_,hA.1,fun _ _=>rfl⟩,rfl⟩) (fun k hk=>by cases hk) hsrc (by simpa using hc);exact zb (hrun hr) (z11 h6 hb hs' (by simpa using hA') hbs' hnd')
     . -- an z4l row
       rename_i r;obtain⟨fp4,h6⟩:=zy h5;clear h5;split at h6
       . rename_i t xs hy;split at h6
         . rename_i xs' hcast;obtain⟨et,ex'⟩:=zcn hcast;subst et;subst ex';obtain⟨hc,h7⟩:=zr h6;have hc:=of_decide_eq_true hc;obtain⟨hok',fp5,h8⟩:=z4a h7;obtain⟨hrlt,_,_⟩:=z2i hok';obtain⟨v',w',bs',hr,hs',hA',hbs',hnd',_⟩:=zeu (o:=o) (xs:=xs) (bs:=ob r) hu hx hok hby (hs.drop hrlt) (v:=a.eval s) (by rw[hA.1];exact hs.row_at hy) (fun k hk=>⟨fun i hi=>by
            split at hi
            . cases hi
            . rename_i hne;exact hne (hs.inj i r k hi hk),hs.hid r k hk,hs.fresh r k hk⟩) hsrc hc
           exact zb (hrun hr) (z11 h8 hb hs' hA' hbs' hnd')
         . exact (z6 h6).elim
       . exact (z6 h6).elim
     . -- a row in a box
       rename_i r n p;obtain⟨t,z,u,xs,fp4,h6,hy,hin,hn,hf⟩:=z74 h5;clear h5;unfold bytK at h6;split at h6
       . -- bytes in a block of a known type
         rename_i q xs;dsimp only at h6;cases hqe:z1i (Nat.beq q el) (teq ee.t (.int .u8)) with
         | false=>rw[hqe] at h6;exact (z6 h6).elim
         | true =>
           rw[hqe] at h6;dsimp only at h6;obtain⟨hq1,hq2⟩:=z7 hqe;have hq1:q=el:=Nat.eq_of_beq_eq_true hq1;subst hq1;cases hcast:cast (.sl ee.t) (.sl (.int .u8)) ys with
           | none=>rw[hcast] at h6;exact (z6 h6).elim
           | some ys' =>
             rw[hcast] at h6;dsimp only at h6;obtain⟨et,ey⟩:=zcn hcast;subst ey;have hsrc':=hsrc.cast et;obtain⟨hc,h7⟩:=zr h6;have hc:=of_decide_eq_true hc;split at h7
             . rename_i q' hq';obtain⟨hlt,fp5,h8⟩:=z1b h7;obtain⟨b,cs,E',fr,b0,b1,b2,c0,c2,hob,hv,hcs,hfr,hcc,hl,hrow,hput⟩:=hs.cel_row hA hy hin hn hf;have hnd:=hs.nd r;rw[hob] at hnd;obtain⟨hnd1,hdis,_⟩:=zdp hnd;have hbox:ARel (hp w) S (tv a) (.box q'.1 q'.2) (tv a r) (b::(b0++([]++b2))):=by
                refine⟨b,cs,E',fr,_,rfl,hv,hcs,hfr,?_⟩;rw[hcc];exact hput (hp w) _ (Sub.refl _) (fun _ _=>rfl) .any () [a.eval s] [] q' hq' ⟨rfl,_,rfl,hrow.one⟩
               have hs1:=hs.content' (w':=w) hlt (b:=b) (by rw[hob];simp) hbox rfl hnd1 (fun k hk=>.inl (by rw[hob];simp at hk ⊢;rcases hk with h|h|h<;>simp[h])) (fun _ _=>rfl) hs.frame;have hmem:∀ k∈b1,k∈ob r:=fun k hk=>by rw[hob];simp[hk]
               obtain⟨v',w',bs',hr,hs',hA',hbs',hnd'⟩:=zxi (o:=o) (xs:=xs) (bs:=b1) hu hx hok et hby hs1 hrow (fun k hk=>⟨fun i hi=>by
                split at hi
                . exact hdis k hk hi
                . rename_i hne;exact hne (hs.inj i r k hi (hmem k hk)),hs.hid r k (hmem k hk),hs.fresh r k (hmem k hk)⟩) hsrc' hc
               exact zb (hrun hr) (z11 h8 hb hs' hA' hbs' hnd')
             . exact (z6 h7).elim
       split at h6
       . rename_i xs' hcast;obtain⟨et,ex'⟩:=zcn hcast;subst et;subst ex';obtain⟨hc,h7⟩:=zr h6;have hc:=of_decide_eq_true hc;split at h7
         . rename_i q hq;obtain⟨hlt,fp5,h8⟩:=z1b h7;obtain⟨b,cs,E',fr,b0,b1,b2,c0,c2,hob,hv,hcs,hfr,hcc,hl,hrow,hput⟩:=hs.cel_row hA hy hin hn hf;have hnd:=hs.nd r;rw[hob] at hnd;obtain⟨hnd1,hdis,_⟩:=zdp hnd;have hbox:ARel (hp w) S (tv a) (.box q.1 q.2) (tv a r) (b::(b0++([]++b2))):=by
            refine⟨b,cs,E',fr,_,rfl,hv,hcs,hfr,?_⟩;rw[hcc];exact hput (hp w) _ (Sub.refl _) (fun _ _=>rfl) .any () [a.eval s] [] q hq ⟨rfl,_,rfl,hrow.one⟩
           have hs1:=hs.content' (w':=w) hlt (b:=b) (by rw[hob];simp) hbox rfl hnd1 (fun k hk=>.inl (by rw[hob];simp at hk ⊢;rcases hk with h|h|h<;>simp[h])) (fun _ _=>rfl) hs.frame;have hmem:∀ k∈b1,k∈ob r:=fun k hk=>by rw[hob];simp[hk]
           obtain⟨v',w',bs',hr,hs',hA',hbs',hnd',_⟩:=zeu (o:=o) (xs:=xs) (bs:=b1) hu hx hok hby hs1 hrow (fun k hk=>⟨fun i hi=>by
            split at hi
            . exact hdis k hk hi
            . rename_i hne;exact hne (hs.inj i r k hi (hmem k hk)),hs.hid r k (hmem k hk),hs.fresh r k (hmem k hk)⟩) hsrc hc
           exact zb (hrun hr) (z11 h8 hb hs' hA' hbs' hnd')
         . exact (z6 h7).elim
       . exact (z6 h6).elim
     . exact (z6 h5).elim
   . exact (z6 h2).elim
 . exact (z6 h1).elim
end
end
end Go.Lift
