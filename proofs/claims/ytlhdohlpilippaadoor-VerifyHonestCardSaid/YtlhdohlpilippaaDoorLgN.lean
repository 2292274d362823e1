import Derived.Test.YtlhdohlpilippaaDoorLgM
set_option linter.all false
namespace Go.Lift
noncomputable section
section
variable {P:Program} {E:Env} {c:Ctx} {st st':List A} {fp fp':FP} {a:Act} {w w':World} {S:Hp} {ob:Nat->List Nat} {o:Oper}
theorem z28 {t:Nat}{x:A}{v:Value}{o':List Nat}(hrun:(execOp a.eval o).run P w=.ok (.value v) w')(ho:o.dst=some t)(h:zn E (.set t x (.ret ())) st fp=some ((),st',fp'))(hb:Base P E c)(hs:SimD c st a w' S ob)
 (hx:ARel (hp w') S (tv a) x v o') (hob:∀ b∈o',(∀ i,b∉ob i)/\S b=none/\(c.B0 b\/c.w0.heap.size<=b)) (hnd:o'.Nodup:=by simp):Good P c o a w st':=by
 obtain⟨fp1,h1,hs1⟩:=zop h hb hs hx hob hnd;obtain rfl:=(z3u h1).2;refine zb hrun ?_;rw[ho];exact⟨_,_,hs1⟩
theorem znh {d:Nat} {t:T} {y:t.den} {v:Value} {o':List Nat} (hrun:(execOp a.eval o).run P w=.ok (.value v) w') (ho:o.dst=some d) (h:zn E (zqb E d t y) st fp=some ((),st',fp')) (hb:Base P E c) (hs:SimD c st a w' S ob)
 (hx:ARel (hp w') S (tv a) (.ov t y) v o') (hob:∀ b∈o',(∀ i,b∉ob i)/\S b=none/\(c.B0 b\/c.w0.heap.size<=b)) (hnd:o'.Nodup:=by simp):Good P c o a w st':=by
 unfold zqb at h;split at h
 . exact z28 hrun ho h hb hs hx hob hnd
 . split at h
   . rename_i u m;obtain⟨hok,_⟩:=z4a h;obtain⟨hlt,_,_⟩:=z2i hok;obtain⟨fp1,h1,hs1⟩:=zop h hb hs hx hob hnd;rcases z5y h1 with⟨hm,h2⟩|⟨hm,h2⟩
     . obtain⟨_,fp4,h4⟩:=z1b h2;obtain⟨ad,hv,hs2⟩:=hs1.nb_some (r:=d) (u:=u) (m:=m) (by rw[List.getD_eq_getElem?_getD,zgo _ _ _ hlt];rfl) hm;obtain rfl:=(z3u h4).2;refine zb hrun ?_;rw[ho];exact⟨_,_,hs2⟩
     . exact (z6 h2).elim
   . exact z28 hrun ho h hb hs hx hob hnd
 . exact z28 hrun ho h hb hs hx hob hnd
theorem z81 (hs:SimD c st a w S ob){s b:Nat}(h:b∈ob s):(∀ i,b∉(fun i=>if i=s then [] else ob i) i)/\S b=none/\(c.B0 b\/c.w0.heap.size<=b):=by
 refine⟨fun i e=>?_,hs.hid _ _ h,hs.fresh _ _ h⟩;dsimp only at e;split at e
 . cases e
 . rename_i hne;exact hne (hs.inj i s b e h)
theorem z13c {x:Operand} (ho:o.op=.assign x) (h:zn E (z1x E o) st fp=some ((),st',fp')) (hb:Base P E c) (hs:SimD c st a w S ob):Good P c o a w st':=by
 simp only[z1x,ho] at h;unfold z14h at h;have hrun:(execOp a.eval o).run P w=.ok (.value (a.eval x)) w:=by simp[execOp,ho]
 split at h
 . exact (z6 h).elim
 rename_i d hd;have hnil:∀ {st1:List A} {fp1:FP},SimD c st1 a w S ob->a.eval x=.slice none 0 0->zn E (match E.keep d with
  | some t=>(.set d (.row t []) (.ret ()):Cmd Unit)
  | none=>z12h E d) st1 fp1=some ((),st',fp')->Good P c o a w st':=by
  intro st1 fp1 hs1 ex h1;split at h1
  . exact z28 hrun hd h1 hb hs1 (o':=[]) (.inl ⟨rfl,⟨_,ex,fun _ _=>rfl⟩,rfl⟩) (fun b e=>by cases e)
  . unfold z12h at h1;split at h1
    . exact z28 hrun hd h1 hb hs1 (o':=[]) ⟨by rw[ex];exact z14k _ _,rfl⟩ (fun b e=>by cases e)
    . exact z28 hrun hd h1 hb hs1 (o':=[]) ⟨ex,rfl⟩ (fun b e=>by cases e)
 have own:∀ {s:Nat} {y:A} {fp1:FP},x=.tmp s->st.getD s .dead=y->y.own=true->zn E (.set s .dead (.set d y (.ret ()))) st fp1=some ((),st',fp')->Good P c o a w st':=by
  intro s y fp1 hx hy hyo h1;obtain⟨hok,fp2,h2⟩:=z4a h1;obtain⟨hlt,_,_⟩:=z2i hok;have hrel:=hs.rel s y (zm hy (fun e=>by subst e;simp[A.own] at hyo));have ev:a.eval x=tv a s:=by rw[hx];rfl
  rw[ev] at hrun;exact z28 hrun hd h2 hb (hs.drop hlt) hrel (fun b e=>z81 hs e) (hs.nd s)
 have ownO:∀ {s:Nat} {t:T} {y:t.den} {fp1:FP},x=.tmp s->st.getD s .dead=.ov t y->zn E (.set s .dead (zqb E d t y)) st fp1=some ((),st',fp')->Good P c o a w st':=by
  intro s t y fp1 hx hy h1;obtain⟨hok,fp2,h2⟩:=z4a h1;obtain⟨hlt,_,_⟩:=z2i hok;have hrel:=hs.rel s _ (zm hy (by simp));have ev:a.eval x=tv a s:=by rw[hx];rfl
  rw[ev] at hrun;exact znh hrun hd h2 hb (hs.drop hlt) hrel (fun b e=>z81 hs e) (hs.nd s)
 split at h
 . rename_i s;obtain⟨fp1,h1⟩:=zy h;clear h;have ev:a.eval (.tmp s)=tv a s:=rfl;generalize hy:st.getD s .dead=y at h1;cases y<;>dsimp only at h1
   case row t xs =>
    split at h1
    . split at h1
      . exact (z6 h1).elim
      . exact own rfl hy rfl h1
    . obtain⟨fp2,h2⟩:=z3k h1;obtain⟨S',t1,z1,hS,e1,hv,hs'⟩:=hs.retire (zm hy (by simp)) (y:=.v (.sl t) xs) rfl;cases e1;rw[ev] at hrun;exact z28 hrun hd h2 hb hs' (o':=[]) ⟨hv,rfl⟩ (fun b e=>by cases e)
   case box t z =>
    split at h1
    . exact (z6 h1).elim
    . exact own rfl hy rfl h1
   case iter=>exact (z6 h1).elim
   case bor r =>
    obtain⟨fp2,h2⟩:=zy h1;clear h1;split at h2
    . rename_i t xs hr;split at h2
      . obtain⟨hok,fp3,h3⟩:=z4a h2;obtain⟨hlt,_,_⟩:=z2i hok;have hrel:=hs.rel r _ (zm hr (by simp));have hA:=hs.rel s _ (zm hy (by simp));rw[ev,hA.1] at hrun;exact z28 hrun hd h3 hb (hs.drop hlt) hrel (fun b e=>z81 hs e) (hs.nd r)
      . obtain⟨fp3,h3⟩:=z3k h2;obtain⟨S',t1,z1,hS,e1,hv,hs'⟩:=hs.retire (zm hr (by simp)) (y:=.v (.sl t) xs) rfl;cases e1;have hA:=hs.rel s _ (zm hy (by simp));rw[ev,hA.1] at hrun;exact z28 hrun hd h3 hb hs' (o':=[]) ⟨hv,rfl⟩ (fun b e=>by cases e)
    . rename_i t z hr;have hA:=hs.rel s _ (zm hy (by simp));rw[ev,hA.1] at hrun;split at h2
      . obtain⟨hok,fp3,h3⟩:=z4a h2;obtain⟨hlt,_,_⟩:=z2i hok;have hrel:=hs.rel r _ (zm hr (by simp));exact z28 hrun hd h3 hb (hs.drop hlt) hrel (fun b e=>z81 hs e) (hs.nd r)
      . exact z28 hrun hd h2 hb hs (o':=[]) ⟨rfl,rfl⟩ (fun b e=>by cases e)
    . rename_i t z hr;have hA:=hs.rel s _ (zm hy (by simp));rw[ev,hA.1] at hrun;split at h2
      . obtain⟨hok,fp3,h3⟩:=z4a h2;obtain⟨hlt,_,_⟩:=z2i hok;have hrel:=hs.rel r _ (zm hr (by simp));exact znh hrun hd h3 hb (hs.drop hlt) hrel (fun b e=>z81 hs e) (hs.nd r)
      . exact z28 hrun hd h2 hb hs (o':=[]) ⟨rfl,rfl⟩ (fun b e=>by cases e)
    . exact (z6 h2).elim
   case ov t z =>
    split at h1
    . exact (z6 h1).elim
    . exact ownO rfl hy h1
   case otup l=>exact (z6 h1).elim
   case pel r n p u q =>
    have hA:=hs.rel s _ (zm hy (by simp));have hn:=hA.1;rw[ev] at hrun;rw[hn] at hA;exact z28 hrun hd h1 hb hs (o':=[]) hA (fun b e=>by cases e)
   case psl r n p u q lo hi =>
    have hA:=hs.rel s _ (zm hy (by simp));have hn:=hA.1;rw[ev] at hrun;rw[hn] at hA;exact z28 hrun hd h1 hb hs (o':=[]) hA (fun b e=>by cases e)
   case nilsl =>
    have hA:=hs.rel s _ (zm hy (by simp));exact hnil hs (by rw[ev];exact hA.1) h1
   case dead=>exact (z6 h1).elim
   case yld=>exact (z6 h1).elim
   case cel r n p =>
    have hA:=hs.rel s _ (zm hy (by simp));have hn:=hA.1;rw[hn] at hA;rw[<- ev] at hA;obtain⟨d',st2,fp2,S2,ob2,h2,hs2,hS2,hv,hl⟩:=z6z h1 hs hA;exact z28 hrun hd h2 hb hs2 (o':=[]) ⟨hv,rfl⟩ (fun b e=>by cases e)
   case clo f rs =>
    have hA:=hs.rel s _ (zm hy (by simp));have hn:=hA.1;rw[hn] at hA;split at h1
    . rw[ev] at hrun;exact z28 hrun hd h1 hb hs (o':=[]) hA (fun b e=>by cases e)
    rw[<- ev] at hA;obtain⟨d',st2,fp2,S2,ob2,h2,hs2,hS2,hv,hl⟩:=z6z h1 hs hA;exact z28 hrun hd h2 hb hs2 (o':=[]) ⟨hv,rfl⟩ (fun b e=>by cases e)
   case v t z =>
    have hA:=hs.rel s _ (zm hy (by simp));rw[ev] at hrun;exact z28 hrun hd h1 hb hs (o':=[]) ⟨hA.1,rfl⟩ (fun b e=>by cases e)
   case adr r t p =>
    have hA:=hs.rel s _ (zm hy (by simp));have hn:=hA.1;rw[ev] at hrun;rw[hn] at hA;exact z28 hrun hd h1 hb hs (o':=[]) hA (fun b e=>by cases e)
   case tup l =>
    have hA:=hs.rel s _ (zm hy (by simp));have hn:=hA.1;rw[ev] at hrun;rw[hn] at hA;exact z28 hrun hd h1 hb hs (o':=[]) hA (fun b e=>by cases e)
 . obtain⟨A,fp1,h1,hA,hAo,hAd,hAr⟩:=zw h hs (hb.globS hs);clear h;split at h1
   . exact hnil hs hA.1 h1
   . exact z28 hrun hd h1 hb hs hA (fun b e=>by cases e)
theorem zwk {t:TypeId}{x:Operand}(ho:o.op=.range t x)(h:zn E (z1x E o) st fp=some ((),st',fp'))(hb:Base P E c)(hs:SimD c st a w S ob):Good P c o a w st':=by
 simp only[z1x,ho] at h;unfold zv7 at h;obtain⟨e,he,h0⟩:=z25 h;obtain⟨A,fp1,h1,hA,hAo,hAd,hAr⟩:=zw h0 hs (hb.globS hs);clear h h0;split at h1
 . rename_i x1 a0 s hstr;have hu:=z13q hb.env he hstr;have ex:a.eval x=.string ⟨⟨s⟩⟩:=hA.1.str_inv;obtain⟨g1,g2,g3,g4⟩:=hs.pushed (.stringIter ⟨⟨s⟩⟩ 0);refine zb (v:=.pointer (some ⟨w.heap.size,0,none⟩)) (w':=pushed w (.stringIter ⟨⟨s⟩⟩ 0)) ?_ (z11 h1 hb g1 (o':=[w.heap.size]) ⟨w.heap.size,none,rfl,rfl,z4x _ _⟩ (fun b e=>by simp at e;subst e;exact⟨g2,g3,g4⟩));simp[execOp,ho,Instr.range,run_underlying hu,ex];rfl
 . exact (z6 h1).elim
theorem zek {b:Nat}{o o':Obj}(h:hp w b=some o')(hc:∀ cs E fr,o' ≠ .cells cs E fr):(setObj b o).run P w=.ok () (z19 w b o):=by
 simp only[hp] at h;simp only[setObj,Sem.run,h];cases o'<;>first
  | exact absurd rfl (hc _ _ _)
  | rfl
theorem zz6 {x:Operand} {isS:Bool} (ho:o.op=.next x isS) (h:zn E (z1x E o) st fp=some ((),st',fp')) (hb:Base P E c) (hs:SimD c st a w S ob):Good P c o a w st':=by
 simp only[z1x,ho] at h;unfold zz8 at h;split at h
 . exact (z6 h).elim
 obtain⟨A,fp1,h1,hA,hAo,hAd,hAr⟩:=zw h hs (hb.globS hs);clear h;split at h1
 . rename_i r;obtain⟨fp2,h2⟩:=zy h1;clear h1;split at h2
   . rename_i s pos hy;obtain⟨b,sp,hob,hv,hcs⟩:=hs.rel r _ (zm hy (by simp));have ex:a.eval x=.pointer (some ⟨b,0,sp⟩):=by rw[hA.1,hv]
     have hget:(getObj b).run P w=.ok (.stringIter ⟨⟨s⟩⟩ pos) w:=by
      simp only[hp] at hcs;simp[getObj,Sem.run,hcs]
     rcases z5y h2 with⟨hc,h3⟩|⟨hc,h3⟩
     . have hc:=of_decide_eq_true hc;obtain⟨hlt,fp3,h4⟩:=z1b h3;have hs1:=hs.content (w':=z19 w b (.stringIter ⟨⟨s⟩⟩ (pos+(znk s pos).2))) (x:=.iter s (pos+(znk s pos).2)) hlt (b:=b) (by rw[hob];simp) ⟨b,sp,hob,hv,z1y hcs⟩ rfl (fun b' hne=>zo hne) (hs.frame.setObj (hs.fresh r b (by rw[hob];simp)) _);refine zb (v:=.tuple #[.bool true,goInt pos,.int .i32 (znk s pos).1]) ?_ (z11 h4 hb hs1 (o':=[]) ⟨rfl,_,rfl,.cons VR.bool (.cons VR.int (.cons VR.int .nil))⟩ (fun b e=>by cases e));simp[execOp,ho,Instr.next,ex,hget,zbq,hc,zek hcs,znk]
     . have hc:=of_decide_eq_false hc;refine zb (v:=.tuple #[.bool false]) (w':=w) ?_ (z11 h3 hb hs (o':=[]) ⟨rfl,_,rfl,.cons VR.bool .nil⟩ (fun b e=>by cases e));simp[execOp,ho,Instr.next,ex,hget,zbq,hc]
   . exact (z6 h2).elim
 . exact (z6 h1).elim
inductive ArgsL (a:Act) (st:List A) (S:Hp):Nat->List A->List Value->List (Nat×Nat)->Prop
 | nil {i:Nat}:ArgsL a st S i [] [] []
 | v {i:Nat} {t:T} {x:t.den} {v:Value} {l:List A} {vs:List Value} {b:List (Nat×Nat)} (hv:VR S t x v) (h:ArgsL a st S (i+1) l vs b):ArgsL a st S i (.v t x::l) (v::vs) b
 | nilsl {i:Nat} {l:List A} {vs:List Value} {b:List (Nat×Nat)} (h:ArgsL a st S (i+1) l vs b):ArgsL a st S i (.nilsl::l) (.slice none 0 0::vs) b
 | box {i s:Nat} {t:T} {x:t.den} {l:List A} {vs:List Value} {b:List (Nat×Nat)} (hs:st[s]?=some (.box t x)) (h:ArgsL a st S (i+1) l vs b):ArgsL a st S i (.box t x::l) (tv a s::vs) ((s,i)::b)
theorem zoe {α:Type}{r:α×List A×FP}:∀ (rs:List Nat) (i:Nat) (k:List A->List (Nat×Nat)->Cmd α) (fp:FP),zn E (zvv rs i k) st fp=some r →
 ∃ l b fp',zn E (k l b) st fp'=some r/\ArgsL a st S i l (rs.map (tv a)) b
 | [],i,k,fp,h=>⟨[],[],fp,h,.nil⟩
 | s :: rs,i,k,fp,h=>by
   simp only[zvv] at h;obtain⟨fp1,h⟩:=zy h;split at h
   . rename_i t y hy;obtain⟨l,b,fp2,h2,hl⟩:=zoe rs (i+1) _ _ h;exact⟨_,_,fp2,h2,.box (zm hy (by simp)) hl⟩
   . exact (z6 h).elim
theorem zhn {α:Type} {r:α×List A×FP} (hb:Base P E c) (xt:List Nat):∀ (xs:List Operand) (i:Nat) (k:List A->List (Nat×Nat)->Cmd α) (st:List A) (fp:FP) (S:Hp) (ob:Nat->List Nat),
 zn E (zmn E xt xs i k) st fp=some r->SimD c st a w S ob →
 ∃ l b st' fp' S' ob',zn E (k l b) st' fp'=some r/\SimD c st' a w S' ob'/\Sub S S'/\ArgsL a st' S' i l (xs.map a.eval++xt.map (tv a)) b
 | [],i,k,st,fp,S,ob,h,hs=>by
   obtain⟨l,b,fp1,h1,hl⟩:=zoe (a:=a) (S:=S) xt i k fp h;exact⟨l,b,st,fp1,S,ob,h1,hs,Sub.refl _,hl⟩
 | x :: xs,i,k,st,fp,S,ob,h,hs=>by
   simp only[zmn] at h;obtain⟨A,fp1,h1,hA,hAo,hAd,hAr⟩:=zw h hs (hb.globS hs);clear h;have dat:∀ {d:Dat} {st1:List Lift.A} {fp2:FP} {S1:Hp} {ob1:Nat->List Nat},zn E (zmn E xt xs (i+1) fun l b=>k (.v d.1 d.2::l) b) st1 fp2=some r->SimD c st1 a w S1 ob1->Sub S S1->VR S1 d.1 d.2 (a.eval x) →
    ∃ l b st' fp' S' ob',zn E (k l b) st' fp'=some r/\SimD c st' a w S' ob'/\Sub S S'/\ArgsL a st' S' i l ((x::xs).map a.eval++xt.map (tv a)) b:=by
    intro d st1 fp2 S1 ob1 h2 hs1 hS1 hv;obtain⟨l,b,st2,fp4,S2,ob2,h4,hs2,hev,hl⟩:=zhn hb xt xs (i+1) _ _ _ _ _ h2 hs1;exact⟨_,_,st2,fp4,S2,ob2,h4,hs2,hS1.trans hev,.v (hv.mono hev) hl⟩
   split at h1
   . rename_i s;obtain⟨fp2,h2⟩:=zy h1;clear h1;split at h2
     . rename_i t ys hy;obtain⟨fp3,h3⟩:=z3k h2;obtain⟨S1,t1,z1,hS,e1,hv,hs1⟩:=hs.retire (zm hy (by simp)) (y:=.v (.sl t) ys) rfl;cases e1;exact dat (d:=nrmL t ys) h3 hs1 hS (by rw[hA.1];exact VR.nrmL hv)
     . rename_i t y hy;split at h2
       . rename_i hfz;obtain⟨fp3,h3⟩:=z3k h2;obtain⟨S1,t1,z1,hS,e1,hv,hs1⟩:=hs.retire (zm hy (by simp)) (y:=.v (frz t) (zra t y)) (zql hfz);cases e1;exact dat (d:=⟨frz t,zra t y⟩) h3 hs1 hS (by rw[hA.1];exact hv)
       . exact (z6 h2).elim
     . obtain⟨l,b,st2,fp4,S2,ob2,h4,hs2,hev,hl⟩:=zhn hb xt xs (i+1) _ _ _ _ _ h2 hs;obtain⟨fp5,h5⟩:=zy h4;split at h5
       . rename_i t y hy;refine⟨_,_,st2,fp5,S2,ob2,h5,hs2,hev,?_⟩;rw[List.map_cons,List.cons_append,hA.1];exact .box (zm hy (by simp)) hl
       . exact (z6 h5).elim
     . exact (z6 h2).elim
   . exact dat (d:=nrm _ _) h1 hs (Sub.refl _) (VR.nrm hA.1)
   . obtain⟨l,b,st2,fp4,S2,ob2,h4,hs2,hev,hl⟩:=zhn hb xt xs (i+1) _ _ _ _ _ h1 hs;refine⟨_,_,st2,fp4,S2,ob2,h4,hs2,hev,?_⟩;rw[List.map_cons,List.cons_append,hA.1];exact .nilsl hl
   . obtain⟨d,st2,fp2,S2,ob2,h2,hs2,hS2,hv,_⟩:=z6z h1 hs hA;exact dat h2 hs2 hS2 hv
   . obtain⟨d,st2,fp2,S2,ob2,h2,hs2,hS2,hv,_⟩:=z6z h1 hs hA;exact dat h2 hs2 hS2 hv
   . exact (z6 h1).elim
theorem zo3 {st:List A}{S:Hp}:∀ (t:T) (x:t.den) (l:List A) (cs:List Value) (i:Nat),z18 t x=some l->Rd S t x cs->ArgsL a st S i l cs []
 | .unit,x,l,cs,i,h,hr=>by simp[z18] at h;subst h;rw[show cs=[] from hr];exact .nil
 | .pair (.ptr t) b,x,l,cs,i,h,hr=>by
   simp only[z18] at h;split at h
   . rename_i l' hl';cases h;obtain⟨c1,c2,e,h1,h2⟩:=hr;have hlen:=h1.length;obtain⟨bk,off,c3,e1,_⟩:=id h1;subst e1;rw[e];exact .v (VR.of_one rfl h1) (zo3 b x.2 l' c2 (i+1) hl' h2)
   . cases h
 | .int _,x,l,cs,i,h,hr=>by simp[z18] at h
 | .bool,x,l,cs,i,h,hr=>by simp[z18] at h
 | .str,x,l,cs,i,h,hr=>by simp[z18] at h
 | .opq,x,l,cs,i,h,hr=>by simp[z18] at h
 | .arr _ _,x,l,cs,i,h,hr=>by simp[z18] at h
 | .sl _,x,l,cs,i,h,hr=>by simp[z18] at h
 | .ptr _,x,l,cs,i,h,hr=>by simp[z18] at h
 | .own _,x,l,cs,i,h,hr=>by simp[z18] at h
 | .any,x,l,cs,i,h,hr=>by simp[z18] at h
 | .byt _,x,l,cs,i,h,hr=>by simp[z18] at h
 | .self _,x,l,cs,i,h,hr=>by simp[z18] at h
 | .fn _ _,x,l,cs,i,h,hr=>by simp[z18] at h
 | .pair (.int _) _,x,l,cs,i,h,hr=>by simp[z18] at h
 | .pair .bool _,x,l,cs,i,h,hr=>by simp[z18] at h
 | .pair .str _,x,l,cs,i,h,hr=>by simp[z18] at h
 | .pair .opq _,x,l,cs,i,h,hr=>by simp[z18] at h
 | .pair .unit _,x,l,cs,i,h,hr=>by simp[z18] at h
 | .pair (.pair _ _) _,x,l,cs,i,h,hr=>by simp[z18] at h
 | .pair (.arr _ _) _,x,l,cs,i,h,hr=>by simp[z18] at h
 | .pair (.sl _) _,x,l,cs,i,h,hr=>by simp[z18] at h
 | .pair (.own _) _,x,l,cs,i,h,hr=>by simp[z18] at h
 | .pair .any _,x,l,cs,i,h,hr=>by simp[z18] at h
 | .pair (.byt _) _,x,l,cs,i,h,hr=>by simp[z18] at h
 | .pair (.self _) _,x,l,cs,i,h,hr=>by simp[z18] at h
 | .pair (.fn _ _) _,x,l,cs,i,h,hr=>by simp[z18] at h
theorem ArgsL.append {st:List A}{S:Hp}{i:Nat}{l1 l2:List A}{v1 v2:List Value}{b:List (Nat×Nat)}(h:ArgsL a st S i l1 v1 b)(h2:∀ j,ArgsL a st S j l2 v2 []):ArgsL a st S i (l1++l2) (v1++v2) b:=by
 induction h with
 | nil=>exact h2 _
 | v hv _ ih=>exact .v hv ih
 | nilsl _ ih=>exact .nilsl ih
 | box hs _ ih=>exact .box hs ih
def obA (b:List (Nat×Nat))(ob:Nat->List Nat)(i:Nat):List Nat:=match b.find? (fun p=>Nat.beq p.2 i) with
 | some p=>ob p.1
 | none=>[]
def obB (b:List (Nat×Nat))(ob' ob:Nat->List Nat)(i:Nat):List Nat:=match b.find? (fun p=>Nat.beq p.1 i) with
 | some p=>ob' p.2
 | none=>ob i
theorem ArgsL.places {a:Act} {st:List A} {S:Hp} {i:Nat} {l:List A} {vs:List Value} {b:List (Nat×Nat)} (h:ArgsL a st S i l vs b) :
 l.length=vs.length/\(∀ p∈b,i<=p.2/\p.2<i+l.length) ∧
 (∀ (j:Nat) (x:A),l[j]?=some x->∃ v,vs[j]?=some v/\x.refs=[]/\((∃ s t y,x=.box t y/\v=tv a s/\st[s]?=some (.box t y)/\b.find? (fun p=>Nat.beq p.2 (i+j))=some (s,i+j)) ∨
  (z8f x=false/\b.find? (fun p=>Nat.beq p.2 (i+j))=none/\∀ h tv',ARel h S tv' x v []))) ∧
 (∀ p∈b,∃ t y,st[p.1]?=some (.box t y)/\l[p.2 - i]?=some (.box t y)/\vs[p.2 - i]?=some (tv a p.1)):=by
 induction h with
 | nil=>refine⟨rfl,by simp,?_,by simp⟩;intro j x h;simp at h
 | @v i t x v l vs b hv _ ih =>
   obtain⟨h1,h2,h3,h4⟩:=ih;refine⟨by simp[h1],fun p hp=>?_,?_,fun p hp=>?_⟩
   . have:=h2 p hp;simp;omega
   . intro j y hj;cases j with
     | zero =>
       simp at hj;subst hj;refine⟨v,rfl,rfl,.inr ⟨rfl,?_,fun h tv'=>⟨hv,rfl⟩⟩⟩;rw[List.find?_eq_none];intro p hp;have:=h2 p hp;simp;omega
     | succ j =>
       obtain⟨u,hu,h5⟩:=h3 j y (by simpa using hj);have e:i+1+j=i+(j+1):=by omega
       rw[e] at h5;exact⟨u,by simpa using hu,h5⟩
   . obtain⟨t',y,h5,h6,h7⟩:=h4 p hp;have:=h2 p hp;have e:p.2 - i=(p.2 - (i+1))+1:=by omega
     exact⟨t',y,h5,by rw[e];simpa using h6,by rw[e];simpa using h7⟩
 | @nilsl i l vs b _ ih =>
   obtain⟨h1,h2,h3,h4⟩:=ih;refine⟨by simp[h1],fun p hp=>?_,?_,fun p hp=>?_⟩
   . have:=h2 p hp;simp;omega
   . intro j y hj;cases j with
     | zero =>
       simp at hj;subst hj;refine⟨_,rfl,rfl,.inr ⟨rfl,?_,fun h tv'=>⟨rfl,rfl⟩⟩⟩;rw[List.find?_eq_none];intro p hp;have:=h2 p hp;simp;omega
     | succ j =>
       obtain⟨u,hu,h5⟩:=h3 j y (by simpa using hj);have e:i+1+j=i+(j+1):=by omega
       rw[e] at h5;exact⟨u,by simpa using hu,h5⟩
   . obtain⟨t',y,h5,h6,h7⟩:=h4 p hp;have:=h2 p hp;have e:p.2 - i=(p.2 - (i+1))+1:=by omega
     exact⟨t',y,h5,by rw[e];simpa using h6,by rw[e];simpa using h7⟩
 | @box i s t x l vs b hs _ ih =>
   obtain⟨h1,h2,h3,h4⟩:=ih;refine⟨by simp[h1],fun p hp=>?_,?_,fun p hp=>?_⟩
   . rcases List.mem_cons.1 hp with rfl|hp
     . simp
     . have:=h2 p hp;simp;omega
   . intro j y hj;cases j with
     | zero =>
       simp at hj;subst hj;exact⟨_,rfl,rfl,.inl ⟨s,t,x,rfl,rfl,hs,by simp⟩⟩
     | succ j =>
       obtain⟨u,hu,h5⟩:=h3 j y (by simpa using hj);have e:i+1+j=i+(j+1):=by omega
       rw[e] at h5;have hne:Nat.beq i (i+(j+1))=false:=by
        cases hb':Nat.beq i (i+(j+1)) with
        | false=>rfl
        | true=>have:=z3x hb';omega
       refine⟨u,by simpa using hu,?_⟩;rw[List.find?_cons];simp only[hne];exact h5
   . rcases List.mem_cons.1 hp with rfl|hp
     . exact⟨t,x,hs,by simp,by simp⟩
     . obtain⟨t',y,h5,h6,h7⟩:=h4 p hp;have:=h2 p hp;have e:p.2 - i=(p.2 - (i+1))+1:=by omega
       exact⟨t',y,h5,by rw[e];simpa using h6,by rw[e];simpa using h7⟩
def z3y (outs:List A):List (Nat×Nat)->List A->List A
 | [],st=>st
 | (r,i)::l,st=>z3y outs l (z1j st r (outs.getD i .dead))
theorem zs1 {α:Type} {r:α×List A×FP} {outs:List A}:∀ (b:List (Nat×Nat)) (k:Cmd α) (st:List A) (fp:FP),zn E (z13a outs b k) st fp=some r →
 ∃ fp',zn E k (z3y outs b st) fp'=some r/\∀ p∈b,∃ t y,outs.getD p.2 .dead=.box t y
 | [],k,st,fp,h=>⟨fp,h,by simp⟩
 | (s, i)::b,k,st,fp,h=>by
   simp only[z13a] at h;split at h
   . rename_i t y hy;obtain⟨fp1,h1⟩:=zy h;split at h1
     . split at h1
       . obtain⟨_,fp2,h2⟩:=z1b h1;obtain⟨fp3,h3,hall⟩:=zs1 b k _ _ h2;refine⟨fp3,by rw[z3y,hy];exact h3,fun p hp=>?_⟩;rcases List.mem_cons.1 hp with rfl|hp
         . exact⟨t,y,hy⟩
         . exact hall p hp
       . exact (z6 h1).elim
     . exact (z6 h1).elim
   . exact (z6 h).elim
theorem zll:∀ {b:List (Nat×Nat)},zz4 b=true->b.Pairwise (fun p q=>p.1≠q.1)
 | [],_=>.nil
 | p::b,h=>by
   obtain⟨h1,h2⟩:=z7 h;refine .cons (fun q hq e=>?_) (zll h2);simp only[Bool.not_eq_true',List.any_eq_false] at h1;have:=h1 q hq;rw[e] at this;simp[Nat.beq_refl] at this
theorem z4g (outs:List A):∀ (b:List (Nat×Nat)) (st:List A),(z3y outs b st).length=st.length
 | [],_=>rfl
 | (r,i)::b,st=>by rw[z3y,z4g outs b,z24]
theorem z50 (outs:List A):∀ (b:List (Nat×Nat)) (st:List A) (j:Nat) (y:A),(∀ p∈b,p.1≠j)->(z3y outs b st)[j]?=some y →
 (st[j]?=some y/\∀ p∈b,y.cell≠some p.1)\/(y=.dead/\∃ z,st[j]?=some z/\z.own=false)
 | [],_,_,_,_,h=>.inl ⟨h,by simp⟩
 | (r, i)::b,st,j,y,hne,h=>by
   rw[z3y] at h;rcases z50 outs b _ j y (fun p hp=>hne p (by simp[hp])) h with⟨h1,h2⟩|⟨h1,z,hz,hzo⟩
   . rcases z41 (hne (r,i) (by simp)).symm h1 with⟨h3,h4⟩|⟨h3,z,hz,hzo⟩
     . refine .inl ⟨h3,fun p hp=>?_⟩;rcases List.mem_cons.1 hp with rfl|hp
       . exact h4
       . exact h2 p hp
     . exact .inr ⟨h3,z,hz,hzo⟩
   . rcases z41 (hne (r,i) (by simp)).symm hz with⟨h3,h4⟩|⟨h3,z',hz',hzo'⟩
     . exact .inr ⟨h1,z,h3,hzo⟩
     . exact .inr ⟨h1,z',hz',hzo'⟩
theorem za9 (outs:List A):∀ (b:List (Nat×Nat)) (st:List A) (p:Nat×Nat),b.Pairwise (fun p q=>p.1≠q.1)->p∈b->p.1<st.length->(∀ q∈b,∃ t y,outs.getD q.2 .dead=.box t y)->(z3y outs b st)[p.1]?=some (outs.getD p.2 .dead)
 | [],_,_,_,h,_,_=>by cases h
 | (r, i)::b,st,p,hnd,h,hlt,hbx=>by
   rw[z3y];cases hnd with
   | cons h1 h2 =>
     rcases List.mem_cons.1 h with rfl|hp
     . have hlt':r<(z3y outs b (z1j st r (outs.getD i .dead))).length:=by rw[z4g,z24];exact hlt
       have hat:=List.getElem?_eq_getElem hlt';rcases z50 outs b _ r _ (fun q hq e=>h1 q hq e.symm) hat with⟨h3,_⟩|⟨_,z,hz,hzo⟩
       . rw[hat,<- h3,z3w _ _ _ hlt]
       . rw[z3w _ _ _ hlt] at hz;obtain⟨t,y,e⟩:=hbx (r,i) (by simp);dsimp only at e;rw[e] at hz;cases hz;cases hzo
     . exact za9 outs b _ p h2 hp (by rw[z24];exact hlt) (fun q hq=>hbx q (by simp[hq]))
end
end
end Go.Lift
