import Derived.Test.YtlhdohlpilippaaDoorLgH
set_option linter.all false
namespace Go.Lift
noncomputable section
section
variable {P:Program} {E:Env} {c:Ctx} {st st':List A} {fp fp':FP} {a:Act} {w w':World} {S:Hp} {ob:Nat->List Nat} {o:Oper}
theorem SimD.ob_some (hs:SimD c st a w S ob){i b:Nat}(h:b∈ob i):i<st.length/\(∃ x:A,st[i]?=some x/\x.own=true)/\∃ o,hp w b=some o:=by
 have hi:i<st.length:=by
  rcases Nat.lt_or_ge i st.length with h'|h'
  . exact h'
  . rw[hs.out i h'] at h;simp at h
 have hat:=List.getElem?_eq_getElem hi;have hx:=hs.rel i _ hat;obtain⟨o,ho,_⟩:=hx.obj b h;refine⟨hi,⟨_,hat,?_⟩,o,ho⟩;cases hy:st[i].own with
 | true=>rfl
 | false=>rw[hx.nil_of_not_own hy] at h;cases h
theorem z5w {w:World}{b:Nat}{o:Obj}(h:hp w b=some o):b<w.heap.size:=zk8 h
def pushed (w:World)(o:Obj):World:={ w with heap:=w.heap.push o }
theorem z4x (w:World)(o:Obj):hp (pushed w o) w.heap.size=some o:=by simp only[hp,pushed,Array.getElem?_push,if_true]
theorem zc9 {w:World}{o:Obj}{b:Nat}(h:b<w.heap.size):hp (pushed w o) b=hp w b:=by
 simp only[hp,pushed,Array.getElem?_push,if_neg (Nat.ne_of_lt h)]
theorem zei (w:World)(o:Obj):Sub (hp w) (hp (pushed w o)):=fun b o' h=>by rw[zc9 (z5w h)];exact h
theorem WF.pushed {w0 w:World}{B:Nat->Prop}(h:WF w0 B w)(o:Obj):WF w0 B (Lift.pushed w o) :=
 ⟨by have:=h.size;simp[Lift.pushed];omega,fun b hb hn=>by
  have:b<w.heap.size:=Nat.lt_of_lt_of_le hb h.size;have e:=zc9 (o:=o) this;simp only[hp] at e;rw[e];exact h.same b hb hn,h.tape,h.os,h.output⟩
theorem WF.setObj {w0 w:World}{B:Nat->Prop}(h:WF w0 B w){b:Nat}(hb:B b\/w0.heap.size<=b)(o:Obj):WF w0 B (z19 w b o) :=
 ⟨by have:=h.size;simpa[z19] using this,fun i hi hn=>by
  have:i≠b:=fun e=>by subst e;exact hb.elim hn (fun h=>by omega)
  have e:=zo (w:=w) (o:=o) this;simp only[hp] at e;rw[e];exact h.same i hi hn,h.tape,h.os,h.output⟩
theorem SimD.pushed (hs:SimD c st a w S ob)(o:Obj):SimD c st a (Lift.pushed w o) S ob/\(∀ i,w.heap.size∉ob i)/\S w.heap.size=none/\(c.B0 w.heap.size\/c.w0.heap.size<=w.heap.size):=by
 refine⟨hs.world (zei w o) (hs.frame.pushed o),fun i e=>?_,?_,.inr hs.frame.size⟩
 . obtain⟨_,_,o',ho⟩:=hs.ob_some e;exact absurd (z5w ho) (Nat.lt_irrefl _)
 . cases hS:S w.heap.size with
   | none=>rfl
   | some o'=>exact absurd (z5w (hs.sub _ _ hS)) (Nat.lt_irrefl _)
theorem ze4 (cs:Array Value):Free cs (0,0):=⟨Nat.le_refl _,fun i _ h=>by omega⟩
theorem zb5 (E:TypeId)(cs:Array Value):(newRow E cs).run P w=.ok ⟨w.heap.size,0,none⟩ (pushed w (.cells cs E)):=rfl
theorem Base.tyOk (hb:Base P E c){i:TypeId}{e:TyI}(he:E.ty i=some e):TyOk P i e:=hb.env.ty i e he
theorem zc4 {i:TypeId}{t:T}{x:t.den}{v:Value}{bs:List Nat}(hs:SimD c st a w S ob)(hv:RdO (w.heap.size,i) (hp w) S t x v.cells.toList bs)(hbs:∀ k∈bs,(∀ i,k∉ob i)/\S k=none/\(c.B0 k\/c.w0.heap.size<=k))(hnd:bs.Nodup) :
 ∃ w',(newVar i v).run P w=.ok ⟨w.heap.size,0,none⟩ w'/\SimD c st a w' S ob/\(∀ k∈w.heap.size::bs,(∀ j,k∉ob j)/\S k=none/\(c.B0 k\/c.w0.heap.size<=k))/\(w.heap.size::bs).Nodup ∧
   ARel (hp w') S (tv a) (.box t x) (.pointer (some ⟨w.heap.size,0,none⟩)) (w.heap.size::bs):=by
 obtain⟨h1,h2,h3,h4⟩:=hs.pushed (.cells v.cells i);have hlt:∀ k∈bs,k<w.heap.size:=fun k hk=>by obtain⟨o,ho,_⟩:=hv.obj _ _ _ _ k hk;exact zk8 ho
 refine⟨_,rfl,h1,fun k hk=>?_,?_,_,v.cells,i,(0,0),bs,rfl,rfl,z4x _ _,ze4 _,hv.mono (Sub.refl _) _ _ _ _ (fun k hk=>zc9 (hlt k hk))⟩
 . rcases List.mem_cons.1 hk with rfl|hk
   . exact⟨h2,h3,h4⟩
   . exact hbs k hk
 . exact List.nodup_cons.2 ⟨fun hm=>absurd (hlt _ hm) (Nat.lt_irrefl _),hnd⟩
theorem z7t:∀ {t e:T},zs7 t e=true->t.size=e.size:=by
 intro t
 induction t with
 | pair a b iha ihb =>
   intro e h;cases e
   case pair c d =>
    obtain⟨h1,h2⟩:=z7 h;simp only[T.size];rw[iha h1,ihb h2]
   all_goals rw[z1v (show teq _ _=true from h)]
 | any =>
   intro e h;obtain⟨h1,h2⟩:=z7 (show z1i (Nat.beq e.size 1) (!e.isAgg)=true by cases e<;>exact h);rw[Nat.eq_of_beq_eq_true h1];rfl
 | own u _=>intro e h;cases e<;>first|rfl|rw[z1v (show teq _ _=true from h)]
 | self u=>intro e h;cases e<;>first|rfl|rw[z1v (show teq _ _=true from h)]
 | mp k v _ _=>intro e h;cases e<;>first|rfl|rw[z1v (show teq _ _=true from h)]
 | nb u _=>intro e h;cases e<;>first|rfl|rw[z1v (show teq _ _=true from h)]
 | _=>intro e h;cases e<;>rw[z1v (show teq _ _=true from h)]
theorem zux:∀ {t e:T},zs7 t e=true->t.isAgg=e.isAgg:=by
 intro t;cases t with
 | pair a b =>
   intro e h;cases e
   case pair c d=>rfl
   all_goals rw[z1v (show teq _ _=true from h)]
 | any =>
   intro e h;obtain⟨h1,h2⟩:=z7 (show z1i (Nat.beq e.size 1) (!e.isAgg)=true by cases e<;>exact h);simp at h2;rw[h2];rfl
 | own u=>intro e h;cases e<;>first|rfl|rw[z1v (show teq _ _=true from h)]
 | self u=>intro e h;cases e<;>first|rfl|rw[z1v (show teq _ _=true from h)]
 | mp k v=>intro e h;cases e<;>first|rfl|rw[z1v (show teq _ _=true from h)]
 | nb u=>intro e h;cases e<;>first|rfl|rw[z1v (show teq _ _=true from h)]
 | _=>intro e h;cases e<;>rw[z1v (show teq _ _=true from h)]
theorem zk3:∀ {t e:T} (f:Nat) {u:T},zs7 t e=true->z1d e [.fld f]=some u->z16 t [.fld f]=z16 e [.fld f]
 | .pair a b,.pair c d,f,u,h,hu=>by
   obtain⟨h1,h2⟩:=z7 h;cases f with
   | zero=>simp[z16,zlj]
   | succ f =>
     have:=zk3 (t:=b) (e:=d) f h2 (by simpa[z1d] using hu);simp only[z16,z7t h1,this]
 | t,.int _,f,u,h,hu=>by simp[z1d] at hu
 | t,.bool,f,u,h,hu=>by simp[z1d] at hu
 | t,.str,f,u,h,hu=>by simp[z1d] at hu
 | t,.opq,f,u,h,hu=>by simp[z1d] at hu
 | t,.unit,f,u,h,hu=>by simp[z1d] at hu
 | t,.arr _ _,f,u,h,hu=>by simp[z1d] at hu
 | t,.sl _,f,u,h,hu=>by simp[z1d] at hu
 | t,.ptr _,f,u,h,hu=>by simp[z1d] at hu
 | t,.own _,f,u,h,hu=>by simp[z1d] at hu
 | t,.any,f,u,h,hu=>by simp[z1d] at hu
 | t,.fn _ _,f,u,h,hu=>by simp[z1d] at hu
 | t,.byt _,f,u,h,hu=>by simp[z1d] at hu
 | t,.self _,f,u,h,hu=>by simp[z1d] at hu
 | t,.mp _ _,f,u,h,hu=>by simp[z1d] at hu
 | t,.nb _,f,u,h,hu=>by simp[z1d] at hu
 | t,.ifc _ _,f,u,h,hu=>by simp[z1d] at hu
 | .int _,.pair c d,f,u,h,hu=>by rw[z1v (show teq _ _=true from h)]
 | .bool,.pair c d,f,u,h,hu=>by rw[z1v (show teq _ _=true from h)]
 | .str,.pair c d,f,u,h,hu=>by rw[z1v (show teq _ _=true from h)]
 | .opq,.pair c d,f,u,h,hu=>by rw[z1v (show teq _ _=true from h)]
 | .unit,.pair c d,f,u,h,hu=>by rw[z1v (show teq _ _=true from h)]
 | .arr _ _,.pair c d,f,u,h,hu=>by rw[z1v (show teq _ _=true from h)]
 | .sl _,.pair c d,f,u,h,hu=>by rw[z1v (show teq _ _=true from h)]
 | .ptr _,.pair c d,f,u,h,hu=>by rw[z1v (show teq _ _=true from h)]
 | .own _,.pair c d,f,u,h,hu=>by rw[z1v (show teq _ _=true from h)]
 | .fn _ _,.pair c d,f,u,h,hu=>by rw[z1v (show teq _ _=true from h)]
 | .byt _,.pair c d,f,u,h,hu=>by rw[z1v (show teq _ _=true from h)]
 | .self _,.pair c d,f,u,h,hu=>by rw[z1v (show teq _ _=true from h)]
 | .mp _ _,.pair c d,f,u,h,hu=>by rw[z1v (show teq _ _=true from h)]
 | .nb _,.pair c d,f,u,h,hu=>by rw[z1v (show teq _ _=true from h)]
 | .ifc _ _,.pair c d,f,u,h,hu=>by rw[z1v (show teq _ _=true from h)]
 | .nod,.pair c d,f,u,h,hu=>by rw[z1v (show teq _ _=true from h)]
 | .any,.pair c d,f,u,h,hu=>by
   have:=(z7 (show z1i (Nat.beq (T.pair c d).size 1) (!(T.pair c d).isAgg)=true from h)).2;simp[T.isAgg] at this
theorem zeh {m:Nat×Nat} {h S:Hp}:∀ (t e:T) (x:e.den) (y:t.den),zex t e x=some y->zOk e x=true->znj m.2 t=true->RdO m h S t y (zc e x) []
 | .pair a b,.pair c d,x,y,hy,hz,hso=>by
   obtain⟨so1,so2⟩:=z7 hso;obtain⟨z1,z2⟩:=z7 hz;simp only[zex] at hy;split at hy
   . rename_i y1 h1;split at hy
     . rename_i y2 h2;cases hy;exact⟨_,_,[],[],rfl,rfl,zeh a c x.1 y1 h1 z1 so1,zeh b d x.2 y2 h2 z2 so2⟩
     . cases hy
   . cases hy
 | .own u,.sl v,x,y,hy,hz,_=>by
   simp only[zex] at hy;cases x with
   | nil=>cases hy;exact⟨_,rfl,.inl ⟨rfl,⟨_,rfl,fun _ _=>rfl⟩,rfl⟩⟩
   | cons=>cases hy
 | .self ty,.opq,x,y,hy,hz,hso=>by
   simp only[zex] at hy;split at hy
   . exact⟨rfl,_,rfl,Nat.eq_of_beq_eq_true hso,.inl rfl⟩
   . cases hy
 | .mp k v,.opq,x,y,hy,hz,hso=>by
   simp only[zex] at hy;split at hy
   . cases hy;exact⟨_,rfl,.inl ⟨rfl,rfl,rfl⟩⟩
   . cases hy
 | .nb u,.opq,x,y,hy,hz,hso=>by
   simp only[zex] at hy;split at hy
   . cases hy;exact .inl ⟨rfl,rfl,rfl⟩
   . cases hy
 | t,e, x,y,hy,hz,hso=>by
   by_cases h1:(∃ a b c d,t=.pair a b/\e=.pair c d)\/(∃ u v,t=.own u/\e=.sl v)\/(∃ ty,t=.self ty/\e=.opq)\/(∃ k v,t=.mp k v/\e=.opq)\/∃ u,t=.nb u/\e=.opq
   . rcases h1 with⟨a,b,c,d,rfl,rfl⟩|⟨u,v,rfl,rfl⟩|⟨ty,rfl,rfl⟩|⟨k,v,rfl,rfl⟩|⟨u,rfl,rfl⟩
     . obtain⟨z1,z2⟩:=z7 hz;obtain⟨so1,so2⟩:=z7 hso;simp only[zex] at hy;split at hy
       . rename_i y1 h1;split at hy
         . rename_i y2 h2;cases hy;exact⟨_,_,[],[],rfl,rfl,zeh a c x.1 y1 h1 z1 so1,zeh b d x.2 y2 h2 z2 so2⟩
         . cases hy
       . cases hy
     . simp only[zex] at hy;cases x with
       | nil=>cases hy;exact⟨_,rfl,.inl ⟨rfl,⟨_,rfl,fun _ _=>rfl⟩,rfl⟩⟩
       | cons=>cases hy
     . simp only[zex] at hy;split at hy
       . exact⟨rfl,_,rfl,Nat.eq_of_beq_eq_true hso,.inl rfl⟩
       . cases hy
     . simp only[zex] at hy;split at hy
       . cases hy;exact⟨_,rfl,.inl ⟨rfl,rfl,rfl⟩⟩
       . cases hy
     . simp only[zex] at hy;split at hy
       . cases hy;exact .inl ⟨rfl,rfl,rfl⟩
       . cases hy
   . have hc:zex t e x=cast e t x:=by
      cases t<;>cases e<;>first
       | rfl
       | (exfalso;apply h1;exact .inl ⟨_,_,_,_,rfl,rfl⟩)
       | (exfalso;apply h1;exact .inr (.inl ⟨_,_,rfl,rfl⟩))
       | (exfalso;apply h1;exact .inr (.inr (.inl ⟨_,rfl,rfl⟩)))
       | (exfalso;apply h1;exact .inr (.inr (.inr (.inl ⟨_,_,rfl,rfl⟩))))
       | (exfalso;apply h1;exact .inr (.inr (.inr (.inr ⟨_,rfl,rfl⟩))))
     rw[hc] at hy;obtain⟨ee,ey⟩:=z12 hy;subst ee;subst ey;exact RdO.of_rd _ _ _ ((zs8 _ _ hz).mono (zc3 S))
theorem zxk {el:TypeId} (ho:o.op=.alloc el) (h:zn E (z1x E o) st fp=some ((),st',fp')) (hb:Base P E c) (hs:SimD c st a w S ob):Good P c o a w st':=by
 simp only[z1x,ho] at h;obtain⟨e,he,h0⟩:=z25 h;clear h;split at h0
 . rename_i t _;split at h0
   . rename_i hck;obtain⟨_,hso⟩:=z7 hck;split at h0
     . rename_i z hz;obtain⟨inf,hi,hze⟩:=(hb.tyOk he).zeq;have hcells:(zv e.t e.zero).cells.toList=zc e.t e.zero:=(zuf (hb.tyOk he).zok)
       have hr:RdO (w.heap.size,el) (hp w) S t z (zv e.t e.zero).cells.toList []:=by rw[hcells];exact zeh t e.t e.zero z hz (hb.tyOk he).zok hso
       obtain⟨w',hrun,hs',h1,hn,hA⟩:=zc4 (P:=P) (i:=el) hs hr (fun k hk=>by cases hk) .nil;refine zb (v:=.pointer (some ⟨w.heap.size,0,none⟩)) (w':=w') ?_ (z11 h0 hb hs' hA h1 hn);have hzr:(zeroValue el).run P w=.ok (zv e.t e.zero) w:=by simp[zeroValue,z40 hi,hze]
       simp[execOp,ho,Instr.alloc,hzr,hrun]
     . exact (z6 h0).elim
   . exact (z6 h0).elim
 . obtain⟨z,hz,hv⟩:=z58 (P:=P) (w:=w) (hb.tyOk he);obtain⟨w',hrun,hs',h1,hn,hA⟩:=zc4 (P:=P) (i:=el) hs (RdO.of_rd _ _ _ (hv.mono (zc3 S)).cells) (fun k hk=>by cases hk) .nil;refine zb (v:=.pointer (some ⟨w.heap.size,0,none⟩)) (w':=w') ?_ (z11 h0 hb hs' hA h1 hn);simp[execOp,ho,Instr.alloc,hz,hrun]
theorem zq6 {α:Type} {r:α×List A×FP} {A:Lift.A} {u:T} {v:Value} {k:List u.den->Cmd α} (h:zn E (z11q A u k) st fp=some r) (hs:SimD c st a w S ob) (hA:ARel (hp w) S (tv a) A v []) :
 ∃ xs st' fp' ob' bs,zn E (k xs) st' fp'=some r/\SimD c st' a w S ob'/\RowRel (hp w) S u xs v bs/\(∀ k∈bs,(∀ i,k∉ob' i)/\S k=none/\(c.B0 k\/c.w0.heap.size<=k))/\bs.Nodup/\st'.length=st.length:=by
 unfold z11q at h;split at h
 . exact⟨[],st,fp,ob,[],h,hs,.inl ⟨rfl,⟨_,hA.1,fun _ _=>rfl⟩,rfl⟩,(fun k hk=>by cases hk),.nil,rfl⟩
 . rename_i s;obtain⟨fp1,h⟩:=zy h;split at h
   . rename_i t xs hy;split at h
     . rename_i ys hys;obtain⟨e,e'⟩:=z12 hys;cases e;dsimp only at e';subst e';obtain⟨hok,fp2,h⟩:=z4a h;obtain⟨h1,h2,h3⟩:=z2i hok;have hrow:=hs.row_at hy;refine⟨xs,_,fp2,_,ob s,h,hs.drop h1,by rw[hA.1];exact hrow,fun k hk=>⟨fun i hi=>?_,hs.hid s k hk,hs.fresh s k hk⟩,hs.nd s,z1u _ _ _⟩;split at hi
       . cases hi
       . rename_i hne;exact hne (hs.inj i s k hi hk)
     . exact (z6 h).elim
   . exact (z6 h).elim
 . exact (z6 h).elim
theorem RowRel.cells {h S:Hp}{t:T}{xs:List t.den}{v:Value}{o:List Nat}(hx:RowRel h S t xs v o):v.cells=#[v]:=z63 hx.one
theorem z136 {el:TypeId} {x:Operand} (ho:o.op=.box el x) (h:zn E (z1x E o) st fp=some ((),st',fp')) (hb:Base P E c) (hs:SimD c st a w S ob):Good P c o a w st':=by
 simp only[z1x,ho] at h;obtain⟨e,he,h0⟩:=z25 h;obtain⟨A,fp1,h1,hA,hAo,hAd,hr⟩:=zw h0 hs (hb.globS hs);clear h h0;split at h1
 . rename_i u _;split at h1
   . obtain⟨xs,st1,fp2,ob1,bs,h2,hs1,hrow,hbs,hnd,hl⟩:=zq6 h1 hs hA;obtain⟨w',hrun,hs',h3,hn,hA'⟩:=zc4 (P:=P) (i:=el) (t:=.own u) (x:=xs) (v:=a.eval x) (bs:=bs) hs1 ⟨_,by rw[hrow.cells],hrow⟩ hbs hnd;refine zb (v:=.pointer (some ⟨w.heap.size,0,none⟩)) (w':=w') ?_ (z11 h2 hb hs' hA' h3 hn);simp[execOp,ho,Instr.box,hrun]
   . exact (z6 h1).elim
 . rename_i f _;split at h1
   . rename_i hf;obtain⟨va,hva⟩:∃ va,A=.v .opq va:=by
      unfold isFn at hf;split at hf
      . exact⟨_,rfl⟩
      . cases hf
     subst hva;have hev:=VR.opq_inv hA.1;have hfun:a.eval x=.func (.func f) #[] #[]:=by
      rw[hev];unfold isFn at hf;split at hf
      . rename_i g fi ca hq;cases hq;obtain⟨e1,e2⟩:=z7 hf;obtain⟨e3,e4⟩:=z7 e2;rw[Nat.eq_of_beq_eq_true e1,Array.isEmpty_iff.1 e3,Array.isEmpty_iff.1 e4]
      . cases hf
     obtain⟨w',hrun,hs',h3,hn,hA'⟩:=zc4 (P:=P) (i:=el) (t:=.fn f .unit) (x:=()) (v:=a.eval x) (bs:=[]) hs (by rw[hfun];exact⟨rfl,#[],rfl,rfl⟩) (fun k hk=>by cases hk) .nil;refine zb (v:=.pointer (some ⟨w.heap.size,0,none⟩)) (w':=w') ?_ (z11 h1 hb hs' hA' h3 hn);simp[execOp,ho,Instr.box,hrun]
   . exact (z6 h1).elim
 . have old:zn E (asK e.t A fun z=>lay o.dst (.box e.t z)) st fp1=some ((),st',fp')->Good P c o a w st':=fun h1=>by
    obtain⟨z,st1,fp2,S1,ob1,h2,hs1,hS,hv,hl⟩:=zav h1 hs hA;obtain⟨w',hrun,hs',h3,hn,hA⟩:=zc4 (P:=P) (i:=el) hs1 (RdO.of_rd _ _ _ hv.cells) (fun k hk=>by cases hk) .nil;refine zb (v:=.pointer (some ⟨w.heap.size,0,none⟩)) (w':=w') ?_ (z11 h2 hb hs' hA h3 hn);simp[execOp,ho,Instr.box,hrun]
   split at h1
   . rename_i t _ _ _ hck;obtain⟨_,hck⟩:=z7 hck;obtain⟨_,hns⟩:=z7 hck;obtain⟨x',st1,fp2,o1,ob1,h2,hs1,hvo,hF,_,_,_⟩:=znd h1 hs hA;obtain⟨w',hrun,hs',h3,hn,hA⟩:=zc4 (P:=P) (i:=el) hs1 (RdO.move _ _ _ _ hns hvo.cells) hF.2 hF.1;refine zb (v:=.pointer (some ⟨w.heap.size,0,none⟩)) (w':=w') ?_ (z11 h2 hb hs' hA h3 hn);simp[execOp,ho,Instr.box,hrun]
   . exact old h1
 . obtain⟨z,st1,fp2,S1,ob1,h2,hs1,hS,hv,hl⟩:=zav h1 hs hA;obtain⟨w',hrun,hs',h3,hn,hA⟩:=zc4 (P:=P) (i:=el) hs1 (RdO.of_rd _ _ _ hv.cells) (fun k hk=>by cases hk) .nil;refine zb (v:=.pointer (some ⟨w.heap.size,0,none⟩)) (w':=w') ?_ (z11 h2 hb hs' hA h3 hn);simp[execOp,ho,Instr.box,hrun]
theorem zoy {x:Operand} (ho:o.op=.nilCheck x) (h:zn E (z1x E o) st fp=some ((),st',fp')) (hb:Base P E c) (hs:SimD c st a w S ob):Good P c o a w st':=by
 simp only[z1x,ho,zlm] at h;obtain⟨A,fp1,h1,hA,hAo,hAd,hr⟩:=zw h hs (hb.globS hs);clear h;have hrun:∀ ad,a.eval x=.pointer (some ad)->(execOp a.eval o).run P w=.ok (.value (a.eval x)) w:=by
  intro ad e;simp[execOp,ho,e]
 split at h1
 . rename_i r;obtain⟨fp2,h2⟩:=zy h1;clear h1;split at h2
   . rename_i t z hz;obtain⟨ad,hv⟩:=z10p hs hz;exact zb (hrun ad (by rw[hA.1,hv])) (z11 h2 hb hs hA (fun b e=>by cases e))
   . split at h2
     . rename_i hz;obtain⟨hm,h3⟩:=zr h2;obtain⟨_,fp3,h4⟩:=z1b h3;obtain⟨ad,hv,hs1⟩:=hs.nb_some hz hm;exact zb (hrun ad (by rw[hA.1,hv])) (z11 h4 hb hs1 (o':=[]) hA (fun b e=>by cases e))
     . exact (z6 h2).elim
   . exact (z6 h2).elim
 . obtain⟨_,_,_,_,_,_,_,_,_,_,_,e⟩:=id hA;exact zb (hrun _ e) (z11 h1 hb hs hA (fun b e=>by cases e))
 . obtain⟨_,b,_,e⟩:=id hA;exact zb (hrun _ e) (z11 h1 hb hs hA (fun b e=>by cases e))
 . obtain⟨b,off,c1,e,_⟩:=VR.ptr_inv hA.1;exact zb (hrun _ e) (z11 h1 hb hs hA (fun b e=>by cases e))
 . exact (z6 h1).elim
def z1a1 (st:List A)(a:Act)(w:World)(S:Hp)(ob:Nat->List Nat)(r:Nat)(t:T)(y:t.den)(mk:t.den->A):Prop :=
 (∀ y,(mk y).own=true)/\∀ b,z1q (tv a r)=some b->r<st.length/\b∈ob r/\∀ p,zx0 t y p=true->∃ cs E fr c0 c1 c2 b1,hp w b=some (.cells cs E fr)/\Free cs fr/\cs.toList=c0++(c1++c2) ∧
 c0.length=z16 t p/\RdO (b,E) (hp w) S (foc t y p).1 (foc t y p).2 c1 b1 ∧
 ∀ (t':T) (z:t'.den) (d:List Value) (y':t.den) (w':World) (cs':Array Value),z7d t y p t' z=some y'->Rd S t' z d->hp w' b=some (.cells cs' E fr)->(∀ k,k≠b->hp w' k=hp w k)->cs'.toList=c0++(d++c2) →
 t'=(foc t y p).1/\ARel (hp w') S (tv a) (mk y') (tv a r) (ob r)
theorem Free.of_size {cs cs':Array Value}{fr:Nat×Nat}(h:Free cs fr)(hs:cs'.size=cs.size):Free cs' fr:=⟨h.1,fun i hi=>h.2 i (by omega)⟩
theorem zkc {t:T}{y:t.den}{p:List Step}(h:zx0 t y p=true):p≠[]/\inb t y p=true:=by
 cases p with
 | nil=>simp[zx0] at h
 | cons s p=>exact⟨by simp,h⟩
theorem offOf_ne (n m:Nat)(u:T)(p:List Step):z16 (.arr n u) p=z16 (.arr m u) p:=zlk n m u p
theorem z102 (n m:Nat)(u:T)(xs:List u.den){p:List Step}(hp:p≠[])(hi:inb (.arr n u) xs p=true):foc (.arr n u) xs p=foc (.arr m u) xs p:=by
 cases p with
 | nil=>exact absurd rfl hp
 | cons s p=>cases s with
   | fld i=>simp[inb] at hi
   | idx i=>rfl
theorem zqe (n m:Nat)(u:T)(xs:List u.den){p:List Step}(hp:p≠[])(t':T)(z:t'.den):z7d (.arr n u) xs p t' z=z7d (.arr m u) xs p t' z:=by
 cases p with
 | nil=>exact absurd rfl hp
 | cons s p=>cases s<;>rfl
theorem zyz (hs:SimD c st a w S ob){r:Nat}{t:T}{y:t.den}(h:st.getD r .dead=.box t y):z1a1 st a w S ob r t y (.box t):=by
 refine⟨fun _=>rfl,fun b hb=>?_⟩;have hat:=zm h (by simp);obtain⟨b',cs,E,fr,bs,hob,hv,hcs,hfr,hrd⟩:=hs.rel r _ hat;have:b'=b:=by rw[hv] at hb;simpa[z1q] using hb
 subst this;refine⟨z89 h (by simp),by rw[hob];simp,fun p hp'=>?_⟩;obtain⟨_,hin⟩:=zkc hp';obtain⟨c0,c1,c2,b0,b1,b2,hc,hbb,hl,hr,_,hset⟩:=zt6 t y p _ _ hrd hin;refine⟨cs,E,fr,c0,c1,c2,b1,hcs,hfr,hc,hl,hr,fun t' z d y' w' cs' hse hz hw' hsame hcs'=>?_⟩;have hnd:=hs.nd r;rw[hob] at hnd;have hne:∀ k∈bs,k≠b':=fun k hk e=>by subst e;exact (List.nodup_cons.1 hnd).1 hk
 obtain⟨et,hr'⟩:=hset (hp w') S (Sub.refl _) (fun k hk=>hsame k (hne k (by rw[hbb];simp at hk ⊢;rcases hk with h|h<;>simp[h]))) t' z d [] y' hse (RdO.of_rd _ _ _ hz);have hb1:b1=[]:=by
  subst et;exact (hr.rd _ _ _ _ hz.noOwn).1
 refine⟨et,b',cs',E,fr,bs,hob,hv,hw',hfr.of_size ?_,by rw[hcs',hbb,hb1];exact hr'⟩;subst et;have h1:=congrArg List.length hc;have h2:=congrArg List.length hcs';have h3:=hr.length;have h4:=hz.length;simp at h1 h2;omega
theorem zyy (hs:SimD c st a w S ob) {r:Nat} {u:T} {xs:List u.den} (h:st.getD r .dead=.row u xs):z1a1 st a w S ob r (.arr 0 u) xs (.row u):=by
 refine⟨fun _=>rfl,fun b hb=>?_⟩;have hat:=zm h (by simp);rcases hs.rel r _ hat with⟨_,hv,_⟩|⟨b',cap,cs,E,fr,hob,hv,hcs,hfr,hsz,hle,hall,hq⟩
 . obtain⟨ad,hv,_⟩:=hv;rw[hv] at hb;unfold z1q at hb;split at hb<;>first|(rename_i h;cases h)|cases hb
 have:b'=b:=by
  rw[hv] at hb;cases cap with
  | zero=>simp[z1q] at hb
  | succ n=>simpa[z1q] using hb
 subst this;refine⟨?_,by rw[hob];simp,fun p hp'=>?_⟩
 . rcases Nat.lt_or_ge r st.length with h'|h'
   . exact h'
   . simp[List.getElem?_eq_none h'] at hat
 obtain⟨hne,hin⟩:=zkc hp';have hin':inb (.arr xs.length u) xs p=true:=by rw[zzw xs.length 0];exact hin
 obtain⟨c0,c1,c2,hc,hl,hr,hset⟩:=z13z (.arr xs.length u) xs p _ ⟨rfl,hall⟩ hin';have hcs2:cs.toList=c0++(c1++(c2++cs.toList.drop (xs.length*u.size))):=by
  conv=>lhs;rw[<- List.take_append_drop (xs.length*u.size) cs.toList,hc]
  simp
 rw[z102 _ 0 _ _ hne hin'] at hr hset;refine⟨cs,E,fr,c0,c1,_,[],hcs,hfr,hcs2,by rw[hl];exact zlk _ _ _ _,RdO.of_rd _ _ _ hr,fun t' z d y' w' cs' hse hz hw' _ hcs'=>?_⟩;rw[zqe 0 xs.length _ _ hne] at hse;obtain⟨et,hr'⟩:=hset t' z d y' hse hz;subst et;have h3:=hr.length;have h4:=hz.length;have hsz':cs'.size=cs.size:=by
  have h1:=congrArg List.length hcs2;have h2:=congrArg List.length hcs';simp at h1 h2;omega
 obtain⟨hn,hall'⟩:=hr';refine⟨rfl,.inr ⟨b',cap,cs',E,fr,hob,by rw[hn];exact hv,hw',hfr.of_size hsz',by rw[hsz',hsz],by rw[hn];exact hle,?_⟩⟩;have:cs'.toList.take (y'.length*u.size)=c0++(d++c2):=by
  have h5:(c0++(d++c2)).length=y'.length*u.size:=by
   rw[hn];have:=congrArg List.length hc;have h6:(cs.toList.take (xs.length*u.size)).length=xs.length*u.size:=by
    rw[List.length_take];simp only[Array.length_toList];rw[hsz];exact Nat.min_eq_left (Nat.mul_le_mul_right _ hle)
   rw[h6] at this;simp at this ⊢;omega
  rw[hcs',show c0++(d++(c2++cs.toList.drop (xs.length*u.size)))=(c0++(d++c2))++cs.toList.drop (xs.length*u.size) by simp,List.take_append_of_le_length (by omega),<- h5,List.take_length]
 rw[this];exact⟨hall',hq⟩
theorem SimD.pel_open (hs:SimD c st a w S ob) {r n:Nat} {p q:List Step} {u:T} {v:Value} (hA:ARel (hp w) S (tv a) (.pel r n p u q) v []) {t:T} {x:t.den} (hy:st.getD r .dead=.box t x) (hin:inb t x p=true) (hn:n=z16 t p) {xs:List u.den} (hf:foc t x p=⟨.own u,xs⟩) (hq:zx0 (.arr 0 u) xs q=true) :
 ∃ b' cs E' fr c0 c1 c2,v=.pointer (some ⟨b',z16 (.arr 0 u) q,none⟩)/\hp w b'=some (.cells cs E' fr)/\Free cs fr/\cs.toList=c0++(c1++c2)/\c0.length=z16 (.arr 0 u) q/\Rd S (foc (.arr 0 u) xs q).1 (foc (.arr 0 u) xs q).2 c1/\b'∈ob r/\r<st.length ∧
   ∀ (t':T) (z:t'.den) (d:List Value) (xs':List u.den) (w':World) (cs':Array Value) (Z:Dat),z7d (.arr 0 u) xs q t' z=some xs'->Rd S t' z d->z4o t x p (.own u) xs'=some Z->hp w' b'=some (.cells cs' E' fr)->(∀ k,k≠b'->hp w' k=hp w k)->cs'.toList=c0++(d++c2) →
     t'=(foc (.arr 0 u) xs q).1/\ARel (hp w') S (tv a) (.box Z.1 Z.2) (tv a r) (ob r):=by
 obtain⟨_,b,csb,Eb,frb,b',len,cap,hbl,hcb,hcell,hv⟩:=hA;obtain⟨b2',cs1,E1,fr1,b0,b1,b2,d0,d2,hob,hvr,hcs1,hfr1,hc1,hl1,hrow,hput⟩:=hs.cel_row (v:=.slice (some ⟨b',0,none⟩) len cap) ⟨rfl,b,csb,Eb,frb,hbl,hcb,hcell⟩ hy hin hn hf;have eb:b2'=b:=by rw[hvr] at hbl;simpa[z1q] using hbl
 subst eb;rcases hrow with⟨hx0,e,_⟩|⟨b3,cap3,cs,E,fr,e1,e2,hcs,hfr,hsz,hle,hall,hbq⟩
 . exfalso;subst hx0;obtain⟨hne,h⟩:=zkc hq;cases q with
   | nil=>exact absurd rfl hne
   | cons s p =>
     cases s with
     | fld k=>simp[inb] at h
     | idx i =>
       have h1:=(z7 h).1;simp at h1
 cases e2;subst e1;have hnd:=hs.nd r;rw[hob] at hnd;have hne0:b2'≠b':=fun e=>by subst e;exact (List.nodup_cons.1 hnd).1 (by simp)
 have hnb:∀ k∈b0++b2,k≠b':=fun k hk e=>by
  subst e;have h1:=(List.nodup_cons.1 hnd).2;rw[List.nodup_append] at h1;rcases List.mem_append.1 hk with hk|hk
  . exact h1.2.2 k hk k (by simp) rfl
  . exact (List.nodup_cons.1 h1.2.1).1 hk
 obtain⟨hne,hinq⟩:=zkc hq;have hin':inb (.arr xs.length u) xs q=true:=by rw[zzw xs.length 0];exact hinq
 obtain⟨c0,c1,c2,hc,hl,hr,hset⟩:=z13z (.arr xs.length u) xs q _ ⟨rfl,hall⟩ hin';have hcs2:cs.toList=c0++(c1++(c2++cs.toList.drop (xs.length*u.size))):=by
  conv=>lhs;rw[<- List.take_append_drop (xs.length*u.size) cs.toList,hc]
  simp
 rw[z102 _ 0 _ _ hne hin'] at hr hset;refine⟨b',cs,E,fr,c0,c1,_,hv,hcs,hfr,hcs2,by rw[hl];exact zlk _ _ _ _,hr,by rw[hob];simp,z89 hy (by simp),fun t' z d xs' w' cs' Z hse hz hZ hw' hsame hcs'=>?_⟩;rw[zqe 0 xs.length _ _ hne] at hse;obtain⟨et,hr'⟩:=hset t' z d xs' hse hz;refine⟨et,b2',cs1,E1,fr1,_,hob,hvr,by rw[hsame b2' hne0];exact hcs1,hfr1,?_⟩;rw[hc1];refine hput (hp w') S (Sub.refl _) (fun k hk=>hsame k (hnb k hk)) (.own u) xs' _ _ Z hZ ⟨_,rfl,.inr ⟨b',cap,cs',E,fr,rfl,?_,hw',?_,?_,?_,?_,hbq⟩⟩
 . have:=hr'.1;rw[this]
 . have h3:=hr.length;have h4:=hz.length;subst et;have h1:=congrArg List.length hcs2;have h2:=congrArg List.length hcs';simp at h1 h2;exact hfr.of_size (by omega)
 . have h3:=hr.length;have h4:=hz.length;subst et;have h1:=congrArg List.length hcs2;have h2:=congrArg List.length hcs';simp at h1 h2;omega
 . have:=hr'.1;omega
 . have hl2:=hr'.1;have h3:=All.length (Rd.length u) _ _ hr'.2;rw[hcs',hl2];have e:c0++(d++(c2++cs.toList.drop (xs.length*u.size)))=(c0++(d++c2))++cs.toList.drop (xs.length*u.size):=by simp
   rw[e,List.take_append_of_le_length (by rw[h3,hl2];exact Nat.le_refl _),List.take_of_length_le (by rw[h3,hl2];exact Nat.le_refl _)];exact hr'.2
theorem zrp {α:Type}{res:α×List A×FP}{r:Nat}{k:(t:T)->t.den->(t.den->A)->Cmd α}(h:zn E (z131 r k) st fp=some res)(hs:SimD c st a w S ob) :
 ∃ t y mk fp',zn E (k t y mk) st fp'=some res/\z1a1 st a w S ob r t y mk:=by
 unfold z131 at h;obtain⟨fp',h⟩:=zy h;split at h
 . rename_i t y hy;exact⟨t,y,_,fp',h,zyz hs hy⟩
 . rename_i u xs hy;exact⟨.arr 0 u,xs,_,fp',h,zyy hs hy⟩
 . exact (z6 h).elim
theorem z9t:∀ (t:T) (y:t.den) (p:List Step) (u:T),z1d t p=some u->(foc t y p).1=u
 | .pair a b,y,[],u,h=>by simpa[z1d,foc] using h
 | .pair a b,y,.fld 0::p,u,h=>z9t a y.1 p u (by simpa[z1d] using h)
 | .pair a b,y,.fld (i+1)::p,u,h=>z9t b y.2 (.fld i::p) u (by simpa[z1d] using h)
 | .pair a b,y,.idx i::p,u,h=>by simp[z1d] at h
 | .arr n t,y,[],u,h=>by simpa[z1d,foc] using h
 | .arr n t,y,.idx i::p,u,h=>z9t t _ p u (by simpa[z1d] using h)
 | .arr n t,y,.fld i::p,u,h=>by simp[z1d] at h
 | .int _,_,[],u,h=>by simpa[z1d,foc] using h
 | .bool,_,[],u,h=>by simpa[z1d,foc] using h
 | .str,_,[],u,h=>by simpa[z1d,foc] using h
 | .opq,_,[],u,h=>by simpa[z1d,foc] using h
 | .unit,_,[],u,h=>by simpa[z1d,foc] using h
 | .sl _,_,[],u,h=>by simpa[z1d,foc] using h
 | .ptr _,_,[],u,h=>by simpa[z1d,foc] using h
 | .own _,_,[],u,h=>by simpa[z1d,foc] using h
 | .any,_,[],u,h=>by simpa[z1d,foc] using h
 | .fn _ _,_,[],u,h=>by simpa[z1d,foc] using h
 | .byt _,_,[],u,h=>by simpa[z1d,foc] using h
 | .self _,_,[],u,h=>by simpa[z1d,foc] using h
 | .mp _ _,_,[],u,h=>by simpa[z1d,foc] using h
 | .nb _,_,[],u,h=>by simpa[z1d,foc] using h
 | .ifc _ _,_,[],u,h=>by simpa[z1d,foc] using h
 | .nod,_,[],u,h=>by simpa[z1d,foc] using h
 | .mp _ _,_,s::p,u,h=>by simp[z1d] at h
 | .nb _,_,s::p,u,h=>by simp[z1d] at h
 | .ifc _ _,_,s::p,u,h=>by simp[z1d] at h
 | .nod,_,s::p,u,h=>by simp[z1d] at h
 | .int _,_,s::p,u,h=>by simp[z1d] at h
 | .bool,_,s::p,u,h=>by simp[z1d] at h
 | .str,_,s::p,u,h=>by simp[z1d] at h
 | .opq,_,s::p,u,h=>by simp[z1d] at h
 | .unit,_,s::p,u,h=>by simp[z1d] at h
 | .sl _,_,s::p,u,h=>by simp[z1d] at h
 | .ptr _,_,s::p,u,h=>by simp[z1d] at h
 | .own _,_,s::p,u,h=>by simp[z1d] at h
 | .any,_,s::p,u,h=>by simp[z1d] at h
 | .fn _ _,_,s::p,u,h=>by simp[z1d] at h
 | .byt _,_,s::p,u,h=>by simp[z1d] at h
 | .self _,_,s::p,u,h=>by simp[z1d] at h
theorem zdd {t t':T}(h:teq t t'=true):t=t':=by simpa[teq] using h
theorem zuw {w e:T}(h:slIs w e=true):∃ v,e=.sl v:=by
 unfold slIs at h;split at h
 . exact⟨_,rfl⟩
 . cases h
theorem z107 {α:Type} {r:α×List A×FP} {A:Lift.A} {u:T} {k:T->Cmd α} (h:zn E (z18f A u k) st fp=some r) :
 ∃ u' fp',zn E (k u') st fp'=some r/\(u'=u\/(u=.int .u8/\∃ q,u'=.byt q)):=by
 unfold z18f at h;split at h
 . obtain⟨fp1,h⟩:=zy h;split at h
   . split at h
     . rename_i hq;exact⟨_,fp1,h,.inr ⟨by simpa[teq] using hq,_,rfl⟩⟩
     . exact⟨_,fp1,h,.inl rfl⟩
   . exact⟨_,fp1,h,.inl rfl⟩
 . exact⟨_,fp,h,.inl rfl⟩
theorem zqi {i:TypeId}{e:TyI}(h:TyOk P i e){S:Hp}{b off:Nat}{c1:List Value}{t:T}{x:t.den}(ht:t=e.t)(hl:Lies (hp w) b off c1)(hr:Rd S t x c1) :
 ∃ v,(loadVar i ⟨b,off,none⟩).run P w=.ok v w/\VR S t x v:=by
 subst ht;exact zfv h hl hr
theorem zwt {ty : TypeId} {x:Operand} (ho:o.op=.load ty x) (h:zn E (zt4 E ty x o.dst) st fp=some ((),st',fp')) (hb:Base P E c) (hs:SimD c st a w S ob):Good P c o a w st':=by
 simp only[zt4] at h;obtain⟨e,he,h0⟩:=z25 h;obtain⟨A,fp1,h1,hA,hAo,hAd,hr⟩:=zw h0 hs (hb.globS hs);clear h h0;have hrun:∀ {b off:Nat} {c1:List Value} {z:e.t.den},a.eval x=.pointer (some ⟨b,off,none⟩)->Lies (hp w) b off c1->Rd S e.t z c1 →
  ∃ v,(execOp a.eval o).run P w=.ok (.value v) w/\VR S e.t z v:=by
  intro b off c1 z ex hl hrd;obtain⟨v,hv,hvr⟩:=zfv (P:=P) (w:=w) (hb.tyOk he) hl hrd;exact⟨v,by simp[execOp,ho,Instr.loadAt,ex,Instr.sureAddr,hv],hvr⟩
 have hrun1:∀ {b off:Nat} {v:Value} {u:T},e.t=.sl u->a.eval x=.pointer (some ⟨b,off,none⟩)->w.cell? ⟨b,off,none⟩=some v->(execOp a.eval o).run P w=.ok (.value v) w:=by
  intro b off v u het ex hc;have hag:e.t.isAgg=false:=by rw[het];rfl
  simp[execOp,ho,Instr.loadAt,ex,Instr.sureAddr,loadVar,z5u (hb.tyOk he),hag,run_load,hc]
 split at h1
 . rename_i t y;split at h1
   . rename_i ht;have:=zdd ht;subst this;obtain⟨b,off,c1,ex,hl,hrd⟩:=VR.ptr_inv hA.1;obtain⟨v,hv,hvr⟩:=hrun ex (hl.mono hs.sub) hrd;exact zb hv (zk h1 hb hs hvr)
   . unfold z13y at h1;split at h1
     . rename_i _ _ _ _ f u y _;split at h1
       . rename_i hte;have het:=zdd hte;obtain⟨b,off,c1,ex,hl,hrd⟩:=VR.ptr_inv hA.1;obtain⟨l,rfl,hu⟩:=hrd;have hc:=z8r (hl.mono hs.sub) (j:=0) rfl;have hv:(execOp a.eval o).run P w=.ok (.value (.func (.func f) #[] l)) w:=by
          have hag:e.t.isAgg=false:=by rw[het];rfl
          simp only[Nat.add_zero] at hc;simp[execOp,ho,Instr.loadAt,ex,Instr.sureAddr,loadVar,z5u (hb.tyOk he),hag,run_load,hc]
         exact zb hv (zk h1 hb hs (VR.of_one rfl ⟨l,rfl,hu⟩))
       . exact (z6 h1).elim
     . exact (z6 h1).elim
 . rename_i r;obtain⟨fp2,h2⟩:=zy h1;clear h1;split at h2
   . rename_i t y hy;split at h2
     . rename_i ht;have:=zdd ht;subst this;obtain⟨b,cs,E',fr,bs,hob,hv,hcs,hfr,hrd⟩:=hs.rel r _ (zm hy (by simp));obtain⟨_,hrd⟩:=hrd.rd _ _ _ _ (hb.tyOk he).noOwn;obtain⟨v,hv,hvr⟩:=hrun (off:=0) (c1:=cs.toList) (by rw[hA.1,hv]) ⟨cs,E',fr,[],[],hcs,by simp,rfl⟩ hrd;exact zb hv (zk h2 hb hs hvr)
     . split at h2
       . rename_i _ _ u ys hteq;split at h2
         . rename_i htu;obtain⟨_,het⟩:=zuw htu;obtain⟨b,cs,E',fr,bs,hob,hv,hcs,hfr,hrd⟩:=hs.rel r _ (zm hy (by simp));obtain⟨v',ecs,hrow⟩:=hrd;have hcell:cs[0]?=some v':=by rw[<- Array.getElem?_toList,ecs];rfl
           refine zb (hrun1 (b:=b) (off:=0) (v:=v') het (by rw[hA.1,hv]) ?_) (z11 h2 hb hs (o':=[]) ⟨rfl,b,cs,E',fr,by rw[hv];rfl,hcs,hcell⟩ (fun b e=>by cases e));simp only[hp] at hcs;simp[World.cell?,hcs,hcell]
         . exact (z6 h2).elim
       . split at h2
         . rename_i hft;obtain⟨_,fp3,h3⟩:=z1b h2;obtain⟨S2,ob2,hS2,hs2⟩:=hs.retireBox hy;have hlt2:r<st.length:=z89 hy (by simp);obtain⟨b,cs,E',fr,bs,hob,hv,hcs,hfr,hrd⟩:=hs2.rel r _ (by simp only[z1j];rw[List.getElem?_set_self (by simpa using hlt2)]);have het:=zdd hft;have hno:noOwn (frz t)=true:=by rw[het];exact (hb.tyOk he).noOwn
           obtain⟨_,hrd⟩:=hrd.rd _ _ _ _ hno;obtain⟨v,hv2,hvr⟩:=zqi (P:=P) (w:=w) (S:=S2) (off:=0) (c1:=cs.toList) (hb.tyOk he) het ⟨cs,E',fr,[],[],hcs,by simp,rfl⟩ hrd;exact zb (v:=v) (w':=w) (by
            have ex:a.eval x=.pointer (some ⟨b,0,none⟩):=by rw[hA.1,hv]
            simp[execOp,ho,Instr.loadAt,ex,Instr.sureAddr,hv2]) (zk h3 hb hs2 hvr)
         . exact (z6 h2).elim
   . exact (z6 h2).elim
 . rename_i r t p;obtain⟨t',y,mk,fp2,h2,hop⟩:=zrp h1 hs;clear h1;split at h2
   . rename_i y' hy';obtain⟨et,ey⟩:=z12 hy';subst et;subst ey;split at h2
     . rename_i u hu;split at h2
       . rename_i htu;obtain⟨hin,h3⟩:=zr h2;have hue:=zdd htu;obtain⟨_,b,hbl,ex⟩:=hA;obtain⟨_,hob,hp'⟩:=hop.2 b hbl;obtain⟨cs,E',fr,c0,c1,c2,b1,hcs,hfr,hc,hl,hrd,_⟩:=hp' p hin;have hf:=z9t t' y p u hu;dsimp only at hrd h3 hf;generalize hz:foc t' y p=z at *;obtain⟨zt,zx⟩:=z;dsimp only at hrd h3 hf;subst hf;subst hue;obtain⟨_,hrd⟩:=hrd.rd _ _ _ _ (hb.tyOk he).noOwn;obtain⟨v,hv,hvr⟩:=hrun (c1:=c1) (by rw[ex,<- hl]) ⟨cs,E',fr,c0,c2,hcs,hc,rfl⟩ hrd;exact zb hv (zk h3 hb hs hvr)
       . split at h2
         . rename_i _ _ q hteq;split at h2
           . rename_i htu;obtain⟨_,het⟩:=zuw htu;obtain⟨hin,h3⟩:=zr h2;obtain⟨_,b,hbl,ex⟩:=hA;obtain⟨_,hob,hp'⟩:=hop.2 b hbl;obtain⟨cs,E',fr,c0,c1,c2,b1,hcs,hfr,hc,hl,hrd,_⟩:=hp' p hin;have hf:=z9t t' y p _ hu;generalize hz:foc t' y p=z at *;obtain⟨zt,zx⟩:=z;dsimp only at hrd hf;subst hf;obtain⟨v',ecs,hrow⟩:=hrd;have hcell:cs[z16 t' p]?=some v':=by rw[<- Array.getElem?_toList,hc,ecs,List.getElem?_append_right (by omega),hl,Nat.sub_self];rfl
             refine zb (hrun1 (v:=v') het ex ?_) (z11 h3 hb hs (o':=[]) ⟨rfl,b,cs,E',fr,hbl,hcs,hcell⟩ (fun b e=>by cases e));simp only[hp] at hcs;simp[World.cell?,hcs,hcell]
           . exact (z6 h2).elim
         . rename_i _ _ p1 q1 hteq;split at h2
           . rename_i hto;have het:=zdd hto;obtain⟨hin,h3⟩:=zr h2;obtain⟨_,b,hbl,ex⟩:=hA;obtain⟨_,hob,hp'⟩:=hop.2 b hbl;obtain⟨cs,E',fr,c0,c1,c2,b1,hcs,hfr,hc,hl,hrd,_⟩:=hp' p hin;have hf:=z9t t' y p _ hu;generalize hz:foc t' y p=z at *;obtain⟨zt,zx⟩:=z;dsimp only at hrd hf;subst hf;obtain⟨v',ecs,hmp⟩:=hrd;have hcell:cs[z16 t' p]?=some v':=by rw[<- Array.getElem?_toList,hc,ecs,List.getElem?_append_right (by omega),hl,Nat.sub_self];rfl
             refine zb (v:=v') (w':=w) ?_ (z11 h3 hb hs (o':=[]) ⟨rfl,b,cs,E',fr,hbl,hcs,hcell⟩ (fun b e=>by cases e));have hc2:w.cell? ⟨b,z16 t' p,none⟩=some v':=by
              simp only[hp] at hcs;simp[World.cell?,hcs,hcell]
             have hag:e.t.isAgg=false:=by rw[het];rfl
             simp[execOp,ho,Instr.loadAt,ex,Instr.sureAddr,loadVar,z5u (hb.tyOk he),hag,run_load,hc2]
           . exact (z6 h2).elim
         . exact (z6 h2).elim
     . exact (z6 h2).elim
   . exact (z6 h2).elim
 . rename_i r n p u q;obtain⟨t,y,u',xs,fp2,h2,hy,hin,hn,hf⟩:=z74 h1;clear h1;split at h2
   . rename_i xs' hx;obtain⟨eu,ex'⟩:=z12 hx;cases eu;subst ex';split at h2
     . rename_i v hv;split at h2
       . rename_i hve;have hve:=zdd hve;obtain⟨hq,h3⟩:=zr h2;obtain⟨b',cs,E',fr,c0,c1,c2,ex,hcs,hfr,hc,hl,hrd,_⟩:=hs.pel_open hA hy hin hn hf hq;have hfo:=z9t (.arr 0 u) xs q v hv;dsimp only at hrd h3 hfo;generalize hz:foc (.arr 0 u) xs q=z at *;obtain⟨zt,zx⟩:=z;dsimp only at hrd h3 hfo;subst hfo;subst hve;obtain⟨v,hv2,hvr⟩:=hrun (c1:=c1) (by rw[ex,<- hl]) ⟨cs,E',fr,c0,c2,hcs,hc,rfl⟩ hrd;exact zb hv2 (zk h3 hb hs hvr)
       . exact (z6 h2).elim
     . exact (z6 h2).elim
   . exact (z6 h2).elim
 . exact (z6 h1).elim
theorem zt3 {ty:TypeId} {x:Operand} {u:T} (ho:o.op=.load ty x) (h:zn E (zzj E u ty x o.dst) st fp=some ((),st',fp')) (hb:Base P E c) (hs:SimD c st a w S ob):Good P c o a w st':=by
 unfold zzj at h;obtain⟨e,he,h0⟩:=z25 h;obtain⟨A,fp1,h1,hA,hAo,hAd,hr⟩:=zw h0 hs (hb.globS hs);clear h h0;split at h1
 . rename_i r;obtain⟨fp2,h2⟩:=zy h1;clear h1;split at h2
   . rename_i t y hy;split at h2
     . rename_i hck;obtain⟨_,hck⟩:=z7 hck;obtain⟨hsim,hck⟩:=z7 hck;obtain⟨hag,hns⟩:=z7 hck;obtain⟨hlt,fp3,h3⟩:=z1b h2;obtain⟨b,cs,E',fr,bs,hob,hv,hcs,hfr,hrd⟩:=hs.rel r _ (zm hy (by simp));have hnd:=hs.nd r;rw[hob] at hnd;have hs2:=hs.recast (x:=.box (fgt t) (z104 t y)) (o':=[b]) hlt ⟨b,cs,E',fr,[],rfl,hv,hcs,hfr,RdO.fgt _ _ _ _ hrd⟩ rfl (List.nodup_cons.2 ⟨by simp,.nil⟩) (fun k hk=>by rw[hob,List.mem_singleton.1 hk];simp);have hage:e.t.isAgg=true:=by
        have h1:=(zux hsim)
        rw[<- h1];exact hag
       have hrun:(execOp a.eval o).run P w=.ok (.value (.agg cs)) w:=by
        have ex:a.eval x=.pointer (some ⟨b,0,none⟩):=by rw[hA.1,hv]
        have hlen:cs.toList.length=e.size:=by rw[hrd.length,z7t hsim,(hb.tyOk he).size]
        have hl:=z2g (P:=P) (w:=w) (b:=b) (off:=0) (c1:=cs.toList) ⟨cs,E',fr,[],[],hcs,by simp,rfl⟩;rw[hlen] at hl;simp[execOp,ho,Instr.loadAt,ex,Instr.sureAddr,loadVar,z5u (hb.tyOk he),hage,z13 (hb.tyOk he),hl]
       have hovT:ovT t=true:=by cases t<;>simp[T.isAgg] at hag<;>rfl
       refine zb hrun (z11 h3 hb hs2 (o':=bs) ⟨hovT,VRO.of_agg hag (RdO.move _ _ _ _ hns hrd)⟩ (fun k hk=>?_) (List.nodup_cons.1 hnd).2);have hkr:k∈ob r:=by rw[hob];simp[hk]
       refine⟨fun i hi=>?_,hs.hid r k hkr,hs.fresh r k hkr⟩;split at hi
       . rw[List.mem_singleton.1 hi] at hk;exact (List.nodup_cons.1 hnd).1 hk
       . rename_i hne;exact hne (hs.inj i r k hi hkr)
     . exact (z6 h2).elim
   . exact (z6 h2).elim
 . exact (z6 h1).elim
theorem zzi {ty:TypeId}{x:Operand}(ho:o.op=.load ty x)(h:zn E (z1x E o) st fp=some ((),st',fp'))(hb:Base P E c)(hs:SimD c st a w S ob):Good P c o a w st':=by
 simp only[z1x,ho] at h;split at h
 . exact zt3 ho h hb hs
 . exact zwt ho h hb hs
theorem zya {α:Type}{r:α×List A×FP}{A:Lift.A}{k:Option (Nat×List Step)->Cmd α}(h:zn E (z15r A k) st fp=some r) :
 ∃ o fp',zn E (k o) st fp'=some r/\∀ s p,o=some (s,p)->(A=.bor s/\p=[])\/∃ t,A=.adr s t p:=by
 unfold z15r at h;split at h
 . obtain⟨fp1,h⟩:=zy h;split at h
   . split at h
     . exact⟨_,fp1,h,fun s p e=>by cases e;exact .inl ⟨rfl,rfl⟩⟩
     . exact⟨_,fp1,h,fun s p e=>by cases e⟩
   . exact⟨_,fp1,h,fun s p e=>by cases e⟩
 . split at h
   . split at h
     . exact⟨_,fp,h,fun s p e=>by cases e;exact .inr ⟨_,rfl⟩⟩
     . exact⟨_,fp,h,fun s p e=>by cases e⟩
   . exact⟨_,fp,h,fun s p e=>by cases e⟩
 . exact⟨_,fp,h,fun s p e=>by cases e⟩
theorem znr {b:Nat}{b0 b1 b2 bs:List Nat}(h:(b::(b0++(b1++b2))).Nodup)(hn:bs.Nodup)(hd:∀ k∈bs,k∉b::(b0++(b1++b2))):(b::(b0++(bs++b2))).Nodup:=by
 have h1:=(zdp h).1;have hp:(b::(b0++(bs++b2))).Perm (bs++(b::(b0++([]++b2)))):=by
  refine ((List.Perm.cons b (List.perm_append_comm_assoc b0 bs b2))).trans ?_;simpa using (List.perm_middle (a:=b) (l₁:=bs) (l₂:=b0++b2)).symm
 rw[hp.nodup_iff,List.nodup_append];refine⟨hn,h1,fun k hk k' hk' e=>?_⟩;subst e;apply hd k hk;simp at hk' ⊢;rcases hk' with h|h|h<;>simp[h]
theorem zwc {ty : TypeId} {x y:Operand} (ho:o.op=.store ty x y) (h:zn E (z1x E o) st fp=some ((),st',fp')) (hb:Base P E c) (hs:SimD c st a w S ob):Good P c o a w st':=by
 simp only[z1x,ho] at h;split at h
 . rename_i hd;unfold zup at h;obtain⟨e,he,h0⟩:=z25 h;obtain⟨A0,fp0,h0',hA0,hA0o,hA0d,hrA0⟩:=zw h0 hs (hb.globS hs);obtain⟨oo,fp0',h0'',hslot⟩:=zya h0';clear h h0 h0';have hput:a.put o.dst undef=a:=by rw[hd];rfl
   split at h0''
   . -- a slice that is z4l
     rename_i r p;split at h0''
     . rename_i u0 hu;have het:e.t=.sl u0:=by
        cases h:e.t<;>rw[h] at hu<;>simp[z13r] at hu;rw[hu]
       obtain⟨B,fp1,h1,hB,hBo,hBd,hrB⟩:=zw h0'' hs (hb.globS hs);obtain⟨u,fp1',h1',huu⟩:=z107 h1;obtain⟨xs,st1,fp2,ob1,bs,h2,hs1,hrow,hbs,hnd,hl⟩:=zq6 h1' hs hB;obtain⟨fp3,h3⟩:=zy h2;clear h0'' h1 h1' h2;split at h3
       . rename_i t z0 hy;split at h3
         . rename_i hck;obtain⟨hin,_⟩:=z7 hck;split at h3
           . rename_i z hz;obtain⟨hoff,h4⟩:=zr h3;obtain⟨hlt,fp5,h5⟩:=z1b h4;obtain rfl:=(z3u h5).2;obtain⟨b,cs,E',fr,bb,hob,hv,hcs,hfr,hrd⟩:=hs1.rel r _ (zm hy (by simp));obtain⟨c0,c1,c2,b0,b1,b2,hc,hbb,hlc,hr,hput2,_⟩:=zt6 t z0 p _ _ hrd hin;have ex:a.eval x=.pointer (some ⟨b,z16 t p,none⟩):=by
              rcases hslot r p rfl with⟨rfl,rfl⟩|⟨t0,rfl⟩
              . rw[hA0.1,hv,zlj]
              . obtain⟨_,b',hbl,ex⟩:=hA0;rw[hv] at hbl;simp[z1q] at hbl;subst hbl;rw[ex,Nat.eq_of_beq_eq_true hoff]
             have hc1:c1.length=1:=by
              rw[hr.length];have:∀ (t:T) (x:t.den) (p:List Step) (t':T) (y:t'.den) (z:Dat),inb t x p=true->z4o t x p t' y=some z->(foc t x p).1.size=t'.size:=by
               intro t
               induction t with
               | pair a b iha ihb =>
                 intro x p t' y z hin hz;cases p with
                 | nil =>
                   rw[zb7] at hz;split at hz
                   . rename_i hq;exact Nat.eq_of_beq_eq_true hq
                   . cases hz
                 | cons s p =>
                   cases s with
                   | idx i=>simp[inb] at hin
                   | fld i =>
                     cases i with
                     | zero =>
                       simp only[z4o] at hz;split at hz
                       . rename_i q hq;exact iha x.1 p t' y q (by simpa[inb] using hin) hq
                       . cases hz
                     | succ i =>
                       simp only[z4o] at hz;split at hz
                       . rename_i q hq;exact ihb x.2 (.fld i::p) t' y q (by simpa[inb] using hin) hq
                       . cases hz
               | arr n t _ =>
                 intro x p t' y z hin hz;cases p with
                 | nil =>
                   rw[zb7] at hz;split at hz
                   . rename_i hq;exact Nat.eq_of_beq_eq_true hq
                   . cases hz
                 | cons s p=>cases s<;>simp[z4o] at hz
               | _ =>
                 intro x p t' y z hin hz;cases p with
                 | nil =>
                   rw[zb7] at hz;split at hz
                   . rename_i hq;exact Nat.eq_of_beq_eq_true hq
                   . cases hz
                 | cons s p=>cases s<;>simp[z4o] at hz
              rw[this t z0 p (.own u) xs z hin hz];rfl
             obtain⟨xv,hvr⟩:∃ xv:e.t.den,VR (fun k=>if k∈bs then hp w k else S k) e.t xv (a.eval y):=by
              have hSS:Sub S (fun k=>if k∈bs then hp w k else S k):=fun k o hk=>by
               dsimp only;split
               . rename_i hm;rw[(hbs k hm).2.1] at hk;cases hk
               . exact hk
              have:=hrow.shared hSS (fun k hk=>by simp[hk]);have this:∃ xv:(T.sl u0).den,VR (fun k=>if k∈bs then hp w k else S k) (.sl u0) xv (a.eval y):=by
               clear hu hput2 het;rcases huu with rfl|⟨rfl,q,rfl⟩
               . exact⟨xs,this⟩
               . exact⟨(xs:List Int),this⟩
              clear hu hslot hput2;generalize e.t=et at het;subst het;exact this
             obtain⟨w',cs',hv',hc',hw'⟩:=ziv (P:=P) (hb.tyOk he) hcs hfr hc hlc (by rw[hc1,het];rfl) hvr;refine z9m (w':=w') (by simp[execOp,ho,Instr.storeAt,ex,Instr.sureAddr,hv']) ?_;rw[hput];have hnd1:=hs1.nd r;rw[hob,hbb] at hnd1;have hbne:∀ k∈b0++(b1++b2),k≠b:=fun k hk e=>by subst e;exact (List.nodup_cons.1 hnd1).1 hk
             have hbsne:∀ k∈bs,k≠b:=fun k hk e=>by subst e;exact (hbs k hk).1 r (by rw[hob];simp)
             subst hw';have hnew:ARel (hp (z19 w b (.cells cs' E' fr))) S (tv a) (.box z.1 z.2) (tv a r) (b::(b0++(bs++b2))):=by
              refine⟨b,cs',E',fr,_,rfl,hv,z1y hcs,hfr.of_size ?_,?_⟩
              . have h1:=congrArg List.length hc;have h2:=congrArg List.length hc';rw[hrow.cells] at h2;simp at h1 h2;omega
              . rw[hc',hrow.cells];exact hput2 _ S (Sub.refl _) (fun k hk=>zo (hbne k (by simp at hk ⊢;rcases hk with h|h<;>simp[h]))) (.own u) xs [a.eval y] bs z hz ⟨_,rfl,hrow.mono (Sub.refl _) (fun k hk=>zo (hbsne k hk))⟩
             exact⟨S,_,hs1.content' hlt (b:=b) (by rw[hob];simp) hnew rfl (znr hnd1 hnd (fun k hk hm=>(hbs k hk).1 r (by rw[hob,hbb];exact hm))) (fun k hk=>by
              have hk:k∈bs\/k∈b::(b0++(b1++b2)):=by
               simp at hk ⊢;rcases hk with h|h|h|h<;>simp[h]
              rcases hk with h|h
              . exact .inr (hbs k h)
              . exact .inl (by rw[hob,hbb];exact h)) (fun b' hne=>zo hne) (hs1.frame.setObj (hs1.fresh r b (by rw[hob];simp)) _)⟩
           . exact (z6 h3).elim
         . exact (z6 h3).elim
       . exact (z6 h3).elim
     . exact (z6 h0'').elim
   obtain⟨B,fp0b,h0b,hB,hBo,hBd,hrB⟩:=zw h0'' hs (hb.globS hs);obtain⟨mf,fpf,h0f,hmf⟩:=z15z h0b;clear h0'' h0b;split at h0f
   . -- a value moves into a field,with what it owns
     rename_i s r p;obtain⟨rfl,hne,t0,t1,z1,t2,y2,rfl,hys,hyr,hin,hoff,hfoc,hns⟩:=hmf s r p rfl;obtain⟨fp2,h2⟩:=zy h0f;obtain⟨fp3,h3⟩:=zy h2;rw[hys,hyr] at h3;dsimp only at h3;split at h3
     . rename_i hsim;split at h3
       . rename_i z' hz';obtain⟨_,fp4,h4⟩:=z4a h3;obtain⟨hlt,fp5,h5⟩:=z1b h4;obtain rfl:=(z3u h5).2;obtain⟨hovt,hvo⟩:=hs.rel s _ (zm hys (by simp));have hvo':VRO (hp w) S t1 z1 (a.eval y) (ob s):=by rw[hB.1];exact hvo
         have hsl:=z89 hys (by simp);have hs1:=hs.drop hsl;have hF:=hs.float (s:=s) (o:=ob s) (fun b hb=>hb) (hs.nd s);obtain⟨b,cs,E',fr,bs,hob,hv',hcs,hfr,hrd⟩:=hs.rel r _ (zm hyr (by simp));obtain⟨c0,c1,c2,b0,b1,b2,hc,hbb,hlc,hr,hput2,_⟩:=zt6 t2 y2 p _ _ hrd hin;have hcl:=hvo'.cells;have ex:a.eval x=.pointer (some ⟨b,z16 t2 p,none⟩):=by
          obtain⟨_,b',hbl,ex⟩:=hA0;rw[hv'] at hbl;simp[z1q] at hbl;subst hbl;rw[ex,hoff]
         obtain⟨w',cs',hv2,hc',hw'⟩:=zgq (P:=P) (c0:=c0) (c1:=c1) (c2:=c2) (off:=z16 t2 p) (v:=a.eval y) (hb.tyOk he) hcs hfr hc hlc (by rw[hr.length,hfoc,z7t hsim]) (by rw[hcl.length,z7t hsim]) hcl.ones;refine z9m (w':=w') (by simp[execOp,ho,Instr.storeAt,ex,Instr.sureAddr,hv2]) ?_;rw[hput];subst hw';have hnd1:=hs.nd r;rw[hob,hbb] at hnd1;have hbr:b∈(fun i=>if i=s then [] else ob i) r:=by
          dsimp only;rw[if_neg (fun e=>hne e.symm),hob];simp
         have hbne:∀ k∈ob s,k≠b:=fun k hk e=>by
          subst e;exact hne (hs.inj s r k hk (by rw[hob];simp))
         have hbne2:∀ k∈b0++(b1++b2),k≠b:=fun k hk e=>by subst e;exact (List.nodup_cons.1 hnd1).1 hk
         have hsize:cs'.size=cs.size:=by
          have h1:=congrArg List.length hc';have h2:=congrArg List.length hc;have h3:=hcl.length;have h4:=hr.length;rw[hfoc] at h4;simp at h1 h2 h3;omega
         have hmv:=(RdO.move (m':=(b,E')) _ _ _ _ hns hcl).mono (h':=hp (z19 w b (.cells cs' E' fr))) (Sub.refl S) _ _ _ _ (fun k hk=>zo (hbne k hk));have hnew:ARel (hp (z19 w b (.cells cs' E' fr))) S (tv a) (.box z'.1 z'.2) (tv a r) (b::(b0++(ob s++b2))):=by
          refine⟨b,cs',E',fr,_,rfl,hv',z1y hcs,hfr.of_size hsize,?_⟩;rw[hc'];exact hput2 _ S (Sub.refl _) (fun k hk=>zo (hbne2 k (by simp at hk ⊢;rcases hk with h|h<;>simp[h]))) t1 z1 _ (ob s) z' hz' hmv
         exact⟨S,_,hs1.content' hlt (b:=b) hbr hnew rfl (znr hnd1 (hs.nd s) (fun k hk hm=>hne (hs.inj s r k hk (by rw[hob,hbb];exact hm)))) (fun k hk=>by
          have hk:k∈ob s\/k∈b::(b0++(b1++b2)):=by
           simp at hk ⊢;rcases hk with h|h|h|h<;>simp[h]
          rcases hk with h|h
          . exact .inr (hF.2 k h)
          . exact .inl (by rw[if_neg (fun e=>hne e.symm),hob,hbb];exact h)) (fun b' hne'=>zo hne') (hs1.frame.setObj (hs1.fresh r b hbr) _)⟩
       . exact (z6 h3).elim
     . exact (z6 h3).elim
   obtain⟨mo,fp1,h1,hmo⟩:=z15y h0f;clear h0f;split at h1
   . -- a value moves in,with what it owns
     rename_i s r;obtain⟨rfl,rfl,hne,t0,z0,y0,hys,hyr,hns⟩:=hmo s r rfl;obtain⟨fp2,h2⟩:=zy h1;rw[hys] at h2;dsimp only at h2;split at h2
     . rename_i hsim;obtain⟨_,fp3,h3⟩:=z4a h2;obtain⟨hlt,fp4,h4⟩:=z1b h3;obtain rfl:=(z3u h4).2;obtain⟨hovt,hvo⟩:=hs.rel s _ (zm hys (by simp));have hvo':VRO (hp w) S t0 z0 (a.eval y) (ob s):=by rw[hB.1];exact hvo
       have hsl:=z89 hys (by simp);have hs1:=hs.drop hsl;have hF:=hs.float (s:=s) (o:=ob s) (fun b hb=>hb) (hs.nd s);obtain⟨b,cs,E',fr,bs,hob,hv',hcs,hfr,hrd⟩:=hs.rel r _ (zm hyr (by simp));have hcl:=hvo'.cells;obtain⟨w',cs',hv2,hc',hw'⟩:=zgq (P:=P) (c0:=[]) (c1:=cs.toList) (c2:=[]) (off:=0) (v:=a.eval y) (hb.tyOk he) hcs hfr (by simp) rfl (by rw[hrd.length,z7t hsim]) (by rw[hcl.length,z7t hsim]) hcl.ones;refine z9m (w':=w') (by simp[execOp,ho,Instr.storeAt,hA0.1,hv',Instr.sureAddr,hv2]) ?_;rw[hput];subst hw';have hnd:=hs.nd r;rw[hob] at hnd;have hbr:b∈(fun i=>if i=s then [] else ob i) r:=by
        dsimp only;rw[if_neg (fun e=>hne e.symm),hob];simp
       have hbne:∀ k∈ob s,k≠b:=fun k hk e=>by
        subst e;exact hne (hs.inj s r k hk (by rw[hob];simp))
       have hsize:cs'.size=cs.size:=by
        have h1:=congrArg List.length hc';have h2:=hrd.length;have h3:=hcl.length;simp at h1 h2 h3;omega
       have hnew:ARel (hp (z19 w b (.cells cs' E' fr))) S (tv a) (.box t0 z0) (tv a r) (b::ob s):=by
        refine⟨b,cs',E',fr,ob s,rfl,hv',z1y hcs,hfr.of_size hsize,?_⟩;rw[hc'];have:=RdO.move (m':=(b,E')) _ _ _ _ hns hcl;simpa using this.mono (h':=hp (z19 w b (.cells cs' E' fr))) (Sub.refl S) _ _ _ _ (fun k hk=>zo (hbne k hk))
       exact⟨S,_,hs1.content' hlt (b:=b) hbr hnew rfl (List.nodup_cons.2 ⟨fun hm=>hbne b hm rfl,hs.nd s⟩) (fun k hk=>by
        rcases List.mem_cons.1 hk with rfl|hk
        . exact .inl hbr
        . exact .inr (hF.2 k hk)) (fun b' hne'=>zo hne') (hs1.frame.setObj (hs1.fresh r b hbr) _)⟩
     . exact (z6 h2).elim
   have h0'':=h1;obtain⟨z,st1,fp2,S1,ob1,h2,hs1,hS,hv,hlen⟩:=zav h1 hs hB;obtain⟨A,fp3,h3,hA,hAo,hAd,hr⟩:=zw h2 hs1 (hb.globS hs1);clear h0'' h1 h2;have hrun:∀ {b off:Nat} {cs:Array Value} {E':TypeId} {fr:Nat×Nat} {c0 c1 c2:List Value},a.eval x=.pointer (some ⟨b,off,none⟩)->hp w b=some (.cells cs E' fr)->Free cs fr →
    cs.toList=c0++(c1++c2)->c0.length=off->c1.length=e.t.size →
    ∃ w' cs',(execOp a.eval o).run P w=.ok .skip w'/\cs'.toList=c0++((a.eval y).cells.toList++c2)/\w'=z19 w b (.cells cs' E' fr):=by
    intro b off cs E' fr c0 c1 c2 ex h1 h2 h3 h4 h5;obtain⟨w',cs',hv',hc',hw'⟩:=ziv (P:=P) (hb.tyOk he) h1 h2 h3 h4 h5 hv;exact⟨w',cs',by simp[execOp,ho,Instr.storeAt,ex,Instr.sureAddr,hv'],hc',hw'⟩
   split at h3
   . rename_i r;obtain⟨fp4,h4⟩:=zy h3;clear h3;split at h4
     . rename_i t y0 hy;split at h4
       . rename_i z' hz';obtain⟨et,ez⟩:=z12 hz';subst et;subst ez;obtain⟨hlt,fp5,h5⟩:=z1b h4;obtain rfl:=(z3u h5).2;obtain⟨b,cs,E',fr,bs,hob,hv',hcs,hfr,hrd⟩:=hs1.rel r _ (zm hy (by simp));obtain⟨ebs,hrd⟩:=hrd.rd _ _ _ _ (hb.tyOk he).noOwn;obtain⟨w',cs',hr',hc',hw'⟩:=hrun (off:=0) (c0:=[]) (c1:=cs.toList) (c2:=[]) (by rw[hA.1,hv']) hcs hfr (by simp) rfl (by simpa using hrd.length);refine z9m hr' ?_;rw[hput];subst hw';refine⟨S1,ob1,hs1.content hlt (b:=b) (by rw[hob];simp) ⟨b,cs',E',fr,bs,hob,hv',z1y hcs,hfr.of_size ?_,?_⟩ rfl (fun b' hne=>zo hne) (hs1.frame.setObj (hs1.fresh r b (by rw[hob];simp)) _)⟩
         . have h1:=congrArg List.length hc';have h2:=hrd.length;have h3:=hv.cells.length;simp at h1 h2 h3;omega
         . rw[hc',ebs];exact RdO.of_rd _ _ _ (by simpa using hv.cells)
       . exact (z6 h4).elim
     . exact (z6 h4).elim
   . rename_i r n p u q;obtain⟨t,y0,u',xs,fp4,h4,hy,hin,hn,hf⟩:=z74 h3;clear h3;split at h4
     . rename_i xs' hx;obtain⟨eu,ex'⟩:=z12 hx;cases eu;subst ex';obtain⟨hq,h5⟩:=zr h4;clear h4;dsimp only at h5;split at h5
       . rename_i xs2 hset;split at h5
         . rename_i Z hZ;obtain⟨hlt,fp6,h6⟩:=z1b h5;obtain rfl:=(z3u h6).2;obtain⟨b',cs,E',fr,c0,c1,c2,ex,hcs,hfr,hc,hl,hrd,hbm,_,hupd⟩:=hs1.pel_open hA hy hin hn hf hq;have hty:e.t=(foc (.arr 0 u) xs q).1:=by
            have:=hupd e.t z (a.eval y).cells.toList xs2 (z19 w b' (.cells (c0++((a.eval y).cells.toList++c2)).toArray E' fr)) (c0++((a.eval y).cells.toList++c2)).toArray Z hset hv.cells hZ (z1y hcs) (fun k hk=>zo hk) (by simp);exact this.1
           obtain⟨w',cs',hr',hc',hw'⟩:=hrun (by rw[ex,<- hl]) hcs hfr hc rfl (by rw[hrd.length,hty]);refine z9m hr' ?_;rw[hput];subst hw';obtain⟨_,hA'⟩:=hupd e.t z _ xs2 _ cs' Z hset hv.cells hZ (z1y hcs) (fun k hk=>zo hk) hc';exact⟨S1,ob1,hs1.content hlt hbm hA' rfl (fun b' hne=>zo hne) (hs1.frame.setObj (hs1.fresh _ _ hbm) _)⟩
         . exact (z6 h5).elim
       . exact (z6 h5).elim
     . exact (z6 h4).elim
   . rename_i r t p;obtain⟨t',y0,mk,fp4,h4,hop⟩:=zrp h3 hs1;clear h3;split at h4
     . rename_i y' hy';obtain⟨et,ey⟩:=z12 hy';subst et;subst ey;obtain⟨hin,h5⟩:=zr h4;clear h4;dsimp only at h5;split at h5
       . rename_i y1 hset;split at h5
         . rename_i y2 hy2;obtain⟨et2,ey2⟩:=z12 hy2;subst ey2;obtain⟨hlt,fp6,h6⟩:=z1b h5;obtain rfl:=(z3u h6).2;obtain⟨_,b,hbl,ex⟩:=hA;obtain⟨_,hob,hp'⟩:=hop.2 b hbl;obtain⟨cs,E',fr,c0,c1,c2,b1,hcs,hfr,hc,hl,hrd,hupd⟩:=hp' p hin;have hty:e.t=(foc t' y0 p).1:=by
            have:=hupd e.t z (a.eval y).cells.toList y1 (z19 w b (.cells (c0++((a.eval y).cells.toList++c2)).toArray E' fr)) (c0++((a.eval y).cells.toList++c2)).toArray hset hv.cells (z1y hcs) (fun k hk=>zo hk) (by simp);exact this.1
           obtain⟨w',cs',hr',hc',hw'⟩:=hrun (by rw[ex,<- hl]) hcs hfr hc rfl (by rw[hrd.length,hty]);refine z9m hr' ?_;rw[hput];subst hw';obtain⟨_,hA'⟩:=hupd e.t z _ y1 _ cs' hset hv.cells (z1y hcs) (fun k hk=>zo hk) hc';exact⟨S1,ob1,hs1.content hlt hob hA' (hop.1 _) (fun b' hne=>zo hne) (hs1.frame.setObj (hs1.fresh _ _ hob) _)⟩
         . exact (z6 h5).elim
       . exact (z6 h5).elim
     . exact (z6 h4).elim
   . exact (z6 h3).elim
 . exact (z6 h).elim
end
end
end Go.Lift
