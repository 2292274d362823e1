import Derived.Test.YtlhdohlpilippaaDoorLgPrVh5
set_option linter.all false
set_option maxRecDepth 100000
namespace Go.Proofs.YtlhdohlpilippaaDoorLg
noncomputable section
open Go Go.Lift Go.Proofs.YtlhdohlpilippaaDoorPx
attribute [local irreducible] zw7 z7c zlt zno zxj
abbrev z9p:Type:=Bool×(List UInt8×(List (List UInt8)×Unit))
def ckH (x:List UInt8):List UInt8:=[99,97,118,101,97,116,32,107,101,121,32]++x
def nbH:List UInt8:=[110,111,116,97,114,121]
def z1d6:List UInt8:=[48,49,50,51,52,53,54,55,56,57,97,98,99,100,101,102]
def z12e:List UInt8:=[102,101,100,99,98,97,57,56,55,54,53,52,51,50,49,48]
def idH:List UInt8:=[105,100]
def zd4 (N:Nat)(t d:Tk):Tk:=(d.1,d.2.1,zpq N t.2.2.1 d.2.2.1,())
def z143 (d:Tk):Prop:=d.2.1.length<=70/\d.2.2.1.length<=8000
def sH (N:Nat)(a:z9p):List UInt8:=z7c N nbH z1d6 (za4 (ckH a.2.1) a.2.1)
def dH (N:Nat)(a:z9p):Tk:=(sH N a,a.2.2.1.map mkL,zal N (z4b N (ckH a.2.1) (sH N a)) (a.2.2.1.map mkL),())
def zak (N:Nat)(g:List UInt8)(a:z9p):Lk:=if a.1=true then (sH N a,z7c N (z35 N g) z12e (ckH a.2.1),()) else (a.2.1,[],())
def z4t (N:Nat):List UInt8->List z9p->List Lk
 | _,[]=>[]
 | g,a::l=>zak N g a::z4t N (zfy N g (zak N g a)) l
def thH (l:List z9p):List z9p:=l.filter fun a=>a.1
def zot (l:List z9p):List (List UInt8):=(l.filter fun a=>!a.1).map fun a=>a.2.1
def zxm (l:List z9p):List (List UInt8):=(thH l).flatMap fun a=>a.2.2.1
def dsH (N:Nat)(l:List z9p):List Tk:=(thH l).map (dH N)
def z7m (N:Nat)(key:List UInt8)(l:List z9p):Tk:=(idH,z4t N (z4b N key idH) l,zal N (z4b N key idH) (z4t N (z4b N key idH) l),())
def itH (N:Nat)(t:Tk)(a:z9p):ItD:=(zd4 N t (dH N a),za8 N (z4b N (ckH a.2.1) (sH N a)) (a.2.2.1.map mkL))
def OkA (a:z9p):Prop:=a.2.1.length<=300/\a.2.2.1.length<=5/\a.2.2.1.flatten.length<=300
theorem z7j (x:List UInt8):(ckH x).length=11+x.length:=by simp[ckH];omega
theorem zlp (N:Nat):∀ (l:List z9p) (g:List UInt8) (a:z9p),z4t N g (l++[a])=z4t N g l++[zak N (zal N g (z4t N g l)) a]
 | [],g,a=>rfl
 | b::l,g,a=>by simp only[List.cons_append,z4t,zlp N l,znw]
theorem zc4 (N:Nat):∀ (l:List z9p) (g:List UInt8),(z4t N g l).length=l.length
 | [],g=>rfl
 | b::l,g=>by simp only[z4t,List.length_cons,zc4 N l]
theorem zqe (k:Nat)(hk:4400<=k){a:z9p}(h:OkA a):(sH (k+100) a).length<=700/\48<=(sH (k+100) a).length:=by
 have h1:=h.1;have hl:=z7j a.2.1;have hf:=z58 (ckH a.2.1) a.2.1;have:=z7u k (key:=nbH) (nonce:=z1d6) (text:=za4 (ckH a.2.1) a.2.1) (by omega) (by decide) rfl (by omega);unfold sH;omega
theorem zop (k:Nat)(hk:4400<=k){g:List UInt8}(hg:g.length=32){a:z9p}(h:OkA a):(z7c (k+100) (z35 (k+100) g) z12e (ckH a.2.1)).length=48+(11+a.2.1.length):=by
 have h1:=h.1;have hl:=z7j a.2.1;have hq:=z5r k (t:=g) (by omega) (by omega);rw[z7u k (by omega) (by omega) rfl (by omega),hl]
theorem zg1 (k:Nat)(hk:4400<=k){g:List UInt8}(hg:g.length=32){a:z9p}(h:OkA a):zd2 (zak (k+100) g a):=by
 have h1:=h.1;unfold zak;split
 . have h2:=zqe k hk h;have h3:=zop k hk hg h;exact⟨by simp only;omega,by simp only;omega⟩
 . exact⟨by simp only;omega,by simp⟩
theorem zdp (k:Nat)(hk:4400<=k):∀ (l:List z9p) {g:List UInt8},g.length=32->(∀ a∈l,OkA a)->∀ m∈z4t (k+100) g l,zd2 m
 | [],g,_,_,m,hm=>by cases hm
 | a::l,g,hg,h,m,hm=>by
   have ha:=zg1 k hk hg (h a List.mem_cons_self);simp only[z4t] at hm;rcases List.mem_cons.1 hm with rfl|hm
   . exact ha
   . exact zdp k hk l (z4s k (by omega) (by omega) ha) (fun x hx=>h x (List.mem_cons_of_mem _ hx)) m hm
def zqm (n p:Nat):List Bool:=List.replicate p true++List.replicate (n - p) false
theorem z124 {n p:Nat}(h:p<n):(zqm n p).set p true=zqm n (p+1):=by
 obtain⟨m,rfl⟩:∃ m,n=p+(m+1):=⟨n - p - 1,by omega⟩
 unfold zqm;rw[show p+(m+1) - p=m+1 by omega,show p+(m+1) - (p+1)=m by omega,List.replicate_succ,List.set_append_right _ _ (by simp),List.length_replicate,Nat.sub_self,List.set_cons_zero,List.replicate_succ'];simp
theorem zvn (id:List UInt8):∀ (ts:List Tk) (p i:Nat),p<ts.length->(ts.getD p z1s).1=id->zez id ts (zqm ts.length p) i=some (i+p)
 | [],p,i,hp,_=>by simp at hp
 | t::ts,0,i,_,h=>by
   simp only[List.getD_cons_zero] at h;simp[zqm,List.replicate_succ,zez,h]
 | t :: ts,p+1,i,hp,h=>by
   simp only[List.getD_cons_succ] at h;have e:zqm (t::ts).length (p+1)=true::zqm ts.length p:=by
    unfold zqm;rw[List.replicate_succ,List.length_cons,show ts.length+1 - (p+1)=ts.length - p by omega];rfl
   rw[e,zez,if_neg (by simp),zvn id ts p (i+1) (by simpa using hp) h];congr 1;omega
theorem z11k (k:Nat)(hk:4400<=k){b:zd5}{st:SV}{g:List UInt8}(hg:g.length=32){a:z9p}(ha:OkA a)(h1:a.1=true){p:Nat}(hp:p<b.2.1.length)
 (hd:b.2.1.getD p z1s=zd4 (k+100) b.1 (dH (k+100) a)) (hu:st.used=zqm b.2.1.length p) :
 ∃ st',z9t (k+100) b st g (zak (k+100) g a)=(st',true)/\st'.used=zqm b.2.1.length (p+1)/\st'.items=st.items++[itH (k+100) b.1 a]/\st'.texts=st.texts:=by
 have hq:=z5r k (t:=g) (by omega) (by omega);have hl:=z7j a.2.1;have ha1:=ha.1;have hsl:=zop k hk hg ha;have hfs:=zrb k (key:=z35 (k+100) g) (nonce:=z12e) (text:=ckH a.2.1) hk (by omega) rfl (by omega);have ho:zlg (k+100) (z35 (k+100) g) (z7c (k+100) (z35 (k+100) g) z12e (ckH a.2.1))=some (ckH a.2.1):=by
  unfold zlg;rw[if_pos ⟨by omega,by omega,hfs.1⟩,hfs.2]
 have hfi:zez (sH (k+100) a) b.2.1 st.used 0=some p:=by
  rw[hu,zvn _ _ p 0 hp (by rw[hd];rfl),Nat.zero_add]
 have hlk:zak (k+100) g a=(sH (k+100) a,z7c (k+100) (z35 (k+100) g) z12e (ckH a.2.1),()):=by unfold zak;rw[if_pos h1]
 rw[hlk];unfold z9t;simp only;rw[ho];simp only;rw[hfi];simp only;rw[hd,if_pos (by rfl)];exact⟨_,rfl,by simp only;rw[hu,z124 hp],rfl,rfl⟩
theorem zdt (k:Nat) (hk:4400<=k) {b:zd5}:∀ (l:List z9p) (g:List UInt8) (st:SV) (p:Nat),g.length=32->(∀ a∈l,OkA a)->p+(thH l).length<=b.2.1.length →
 (∀ j,j<(thH l).length->b.2.1.getD (p+j) z1s=zd4 (k+100) b.1 ((dsH (k+100) l).getD j z1s))->st.used=zqm b.2.1.length p →
 ∃ st',z3a (k+100) b (z4t (k+100) g l) (za8 (k+100) g (z4t (k+100) g l)) st=(st',true)/\st'.used=zqm b.2.1.length (p+(thH l).length)/\st'.items=st.items++(thH l).map (itH (k+100) b.1)/\st'.texts=st.texts++zot l
 | [],g,st,p,_,_,_,_,hu=>⟨st,by simp only[z4t,z3a],by simpa[thH] using hu,by simp[thH],by simp[zot]⟩
 | a :: l,g,st,p,hg,hok,hp,hds,hu=>by
   have ha:=hok a List.mem_cons_self;have hsm:=zg1 k hk hg ha;have hn:=z4s k (t:=g) (by omega) (by omega) hsm;have hok':∀ x∈l,OkA x:=fun x hx=>hok x (List.mem_cons_of_mem _ hx)
   simp only[z4t,za8,z3a];cases h1:a.1 with
   | false =>
     have hlk:zak (k+100) g a=(a.2.1,[],()):=by unfold zak;rw[if_neg (by rw[h1];simp)]
     have et:thH (a::l)=thH l:=by simp[thH,h1]
     have eo:zot (a::l)=a.2.1::zot l:=by simp[zot,h1]
     have ed:dsH (k+100) (a::l)=dsH (k+100) l:=by simp[dsH,et]
     rw[if_pos (by rw[hlk])];rw[et] at hp hds ⊢;rw[ed] at hds;obtain⟨st',e1,e2,e3,e4⟩:=zdt k hk l _ { st with texts:=st.texts++[(zak (k+100) g a).1] } p hn hok' hp hds hu;exact⟨st',e1,e2,e3,by rw[e4,eo,hlk];simp⟩
   | true =>
     have hlk:zak (k+100) g a=(sH (k+100) a,z7c (k+100) (z35 (k+100) g) z12e (ckH a.2.1),()):=by unfold zak;rw[if_pos h1]
     have et:thH (a::l)=a::thH l:=by simp[thH,h1]
     have eo:zot (a::l)=zot l:=by simp[zot,h1]
     have ed:dsH (k+100) (a::l)=dH (k+100) a::dsH (k+100) l:=by simp[dsH,et]
     rw[et] at hp hds ⊢;rw[ed] at hds;simp only[List.length_cons] at hp hds ⊢;have hsl:=zop k hk hg ha;rw[if_neg (by rw[hlk];intro e;have:=congrArg List.length e;simp only at this;rw[hsl] at this;simp at this)];obtain⟨s1,t1,t2,t3,t4⟩:=z11k k hk (st:=st) hg ha h1 (p:=p) (by omega) (by simpa using hds 0 (by omega)) hu;rw[t1];simp only;obtain⟨st',e1,e2,e3,e4⟩:=zdt k hk l (zfy (k+100) g (zak (k+100) g a)) s1 (p+1) hn hok' (by omega) (fun j hj=>by
      have:=hds (j+1) (by omega);rw[show p+1+j=p+(j+1) by omega];simpa using this) t2
     exact⟨st',e1,by rw[e2];congr 1;omega,by rw[e3,t3];simp,by rw[e4,t4,eo]⟩
theorem zr2 (N:Nat)(b:zd5):∀ (cs:List (List UInt8)) (gs:List (List UInt8)) (st:SV),cs.length<=gs.length →
 ∃ st',z3a N b (cs.map mkL) gs st=(st',true)/\st'.used=st.used/\st'.items=st.items/\st'.texts=st.texts++cs
 | [],gs,st,_=>⟨st,by simp[z3a],rfl,rfl,by simp⟩
 | c::cs,[],st,h=>by simp at h
 | c::cs,g::gs,st,h=>by
   simp only[List.map_cons,z3a];rw[if_pos (by rfl)];obtain⟨st',e1,e2,e3,e4⟩:=zr2 N b cs gs { st with texts:=st.texts++[(mkL c).1] } (by simpa using h);exact⟨st',e1,e2,e3,by rw[e4];simp[mkL]⟩
theorem znn (N:Nat)(b:zd5):∀ (ys:List z9p) (f i:Nat) (st:SV),st.items.drop i=ys.map (itH N b.1)->ys.length<f →
 ∃ st',z5d N b f i st=(st',true)/\st'.used=st.used/\st'.texts=st.texts++ys.flatMap fun a=>a.2.2.1
 | ys,0,i,st,_,hf=>by omega
 | [],f+1,i,st,h,_=>by
   have:st.items.length<=i:=by simpa using h
   rw[z5d,if_neg (by omega)];exact⟨st,rfl,rfl,by simp⟩
 | a :: ys,f+1,i,st,h,hf=>by
   have hlt:i<st.items.length:=by
    rcases Nat.lt_or_ge i st.items.length with h1|h1
    . exact h1
    . rw[List.drop_of_length_le h1] at h;simp at h
   have hc:=z2k st.items (z1s,[]) i hlt;rw[h,List.map_cons,List.cons.injEq] at hc;rw[z5d,if_pos hlt,<- hc.1];obtain⟨s,e1,e2,e3,e4⟩:=zr2 N b a.2.2.1 (itH N b.1 a).2 st (by simp only[itH];rw[z68];simp);have e0:(itH N b.1 a).1.2.1=a.2.2.1.map mkL:=rfl;rw[e0,e1];simp only;obtain⟨s2,g1,g2,g3⟩:=znn N b ys f (i+1) s (by rw[e3];exact hc.2.symm) (by simpa using hf);exact⟨s2,g1,by rw[g2,e2],by rw[g3,e4];simp⟩
theorem ziw (k:Nat) (hk:4400<=k) {key:List UInt8} (hkey:key.length<=30000) {l:List z9p} (hl:l.length<=8) (hok:∀ a∈l,OkA a) {ds:List Tk} (hn:(thH l).length<=ds.length)
 (hds:∀ j,j<(thH l).length->ds.getD j z1s=zd4 (k+100) (z7m (k+100) key l) ((dsH (k+100) l).getD j z1s)) :
 (zcz (k+100) key (z7m (k+100) key l,ds,())).2=(if ds.length=(thH l).length then 0 else 11)/\(zcz (k+100) key (z7m (k+100) key l,ds,())).1.texts=zot l++zxm l:=by
 have hr:=zf5 k (c:=key) (id:=idH) (by omega) hkey (by decide);have hth:(thH l).length<=l.length:=List.length_filter_le ..;obtain⟨s1,a1,a2,a3,a4⟩:=zdt k hk (b:=(z7m (k+100) key l,ds,())) l (z4b (k+100) key idH) (stB (k+100) key (z7m (k+100) key l,ds,())) 0 hr hok (by simpa using hn) (by simpa using hds) (by simp[stB,stA,zqm]);have hd1:s1.items.drop 1=(thH l).map (itH (k+100) (z7m (k+100) key l)):=by rw[a3];simp[stB]
 obtain⟨s2,b1,b2,b3⟩:=znn (k+100) (z7m (k+100) key l,ds,()) (thH l) 19 1 s1 hd1 (by omega);have hout:z5d (k+100) (z7m (k+100) key l,ds,()) 20 0 (stB (k+100) key (z7m (k+100) key l,ds,()))=(s2,true):=by
  rw[z5d,if_pos (by simp[stB])];have e:(stB (k+100) key (z7m (k+100) key l,ds,())).items.getD 0 (z1s,[])=(z7m (k+100) key l,za8 (k+100) (z4b (k+100) key idH) (z4t (k+100) (z4b (k+100) key idH) l)):=rfl;rw[e];simp only;have e2:(z7m (k+100) key l).2.1=z4t (k+100) (z4b (k+100) key idH) l:=rfl;rw[e2,a1];exact b1
 have hu:s2.used=zqm ds.length (thH l).length:=by rw[b2,a2];simp
 unfold zcz;rw[if_pos (by rfl),hout];simp only;constructor
 . rw[hu];by_cases h:ds.length=(thH l).length
   . rw[if_pos h,if_pos ⟨trivial,by simp[zqm,h]⟩]
   . rw[if_neg h,if_neg (by
    rintro⟨_,e⟩;have:(zqm ds.length (thH l).length).contains false=true:=by
     simp only[List.contains_iff_mem,zqm,List.mem_append,List.mem_replicate];exact .inr ⟨by omega,trivial⟩
    rw[this] at e;cases e)]
 . rw[b3,a4];simp[stB,stA,zxm]
theorem zw4 (N:Nat) {b:zd5} {st s:SV} {g:List UInt8} {l:Lk} (h:z9t N b st g l=(s,true)):zjp s.used=zjp st.used+1/\s.used.length=st.used.length:=by
 unfold z9t at h;simp only at h;split at h
 . simp at h
 . split at h
   . simp at h
   . rename_i a hf;obtain⟨_,_,_,_,_,_,g7⟩:=zeo _ _ _ _ _ hf;split at h
     . simp only[Prod.mk.injEq,and_true] at h;subst h;exact⟨by simpa using g7,by simp⟩
     . simp at h
theorem zic (N:Nat) {b:zd5}:∀ (ls:List Lk) (gs:List (List UInt8)) (st s:SV),z3a N b ls gs st=(s,true)->zjp s.used=zjp st.used+z9s ls/\s.used.length=st.used.length
 | [],gs,st,s,h=>by
   rw[z3a] at h;cases h;exact⟨rfl,rfl⟩
 | l::ls,[],st,s,h=>by simp[z3a] at h
 | l :: ls,g::gs,st,s,h=>by
   rw[z3a] at h;rw[zbl];split at h
   . rename_i e;obtain⟨h1,h2⟩:=zic N ls gs _ s h;simp only at h1 h2;exact⟨by rw[h1,if_pos e];omega,h2⟩
   . rename_i e;rw[if_neg e];split at h
     . rename_i s1 h3;obtain⟨h1,h2⟩:=zic N ls gs s1 s h;obtain⟨h4,h5⟩:=zw4 N h3;exact⟨by rw[h1,h4];omega,by rw[h2,h5]⟩
     . simp at h
theorem zio (k:Nat)(hk:4400<=k):∀ (l:List z9p) {g:List UInt8},g.length=32->(∀ a∈l,OkA a)->z9s (z4t (k+100) g l)=(thH l).length
 | [],g,_,_=>rfl
 | a :: l,g,hg,hok=>by
   have ha:=hok a List.mem_cons_self;have hsm:=zg1 k hk hg ha;have hn:=z4s k (t:=g) (by omega) (by omega) hsm;rw[z4t,zbl,zio k hk l hn (fun x hx=>hok x (List.mem_cons_of_mem _ hx))];cases h1:a.1 with
   | false =>
     rw[if_pos (by unfold zak;rw[if_neg (by rw[h1];simp)])];simp[thH,h1]
   | true =>
     have hsl:=zop k hk hg ha;rw[if_neg (by unfold zak;rw[if_pos h1];intro e;have:=congrArg List.length e;simp only at this;rw[hsl] at this;simp at this)];simp[thH,h1];omega
theorem zyn (k:Nat)(hk:4400<=k){key:List UInt8}(hkey:key.length<=30000){l:List z9p}(hok:∀ a∈l,OkA a){ds:List Tk}(hn:ds.length<(thH l).length) :
 (zcz (k+100) key (z7m (k+100) key l,ds,())).2=11:=by
 have hr:=zf5 k (c:=key) (id:=idH) (by omega) hkey (by decide);unfold zcz;rw[if_pos (by rfl),z5d,if_pos (by simp[stB])];have e:(stB (k+100) key (z7m (k+100) key l,ds,())).items.getD 0 (z1s,[])=(z7m (k+100) key l,za8 (k+100) (z4b (k+100) key idH) (z4t (k+100) (z4b (k+100) key idH) l)):=rfl;rw[e];simp only;cases hi:z3a (k+100) (z7m (k+100) key l,ds,()) (z7m (k+100) key l).2.1 (za8 (k+100) (z4b (k+100) key idH) (z4t (k+100) (z4b (k+100) key idH) l)) (stB (k+100) key (z7m (k+100) key l,ds,())) with
 | mk s ok =>
   cases ok with
   | false=>simp
   | true =>
     exfalso;obtain⟨h1,h2⟩:=zic _ _ _ _ _ hi;have h3:=zjz s.used;have h4:z9s (z7m (k+100) key l).2.1=(thH l).length:=zio k hk l hr hok;have h5:(stB (k+100) key (z7m (k+100) key l,ds,())).used.length=ds.length:=by simp[stB,stA]
     omega
end
end Go.Proofs.YtlhdohlpilippaaDoorLg
set_option linter.all false
set_option maxRecDepth 100000
namespace Go.Proofs.YtlhdohlpilippaaDoorLg
noncomputable section
open Go Go.Lift Go.Proofs.YtlhdohlpilippaaDoorPx
attribute [local irreducible] zw7 z7c zlt zno zxj
theorem z1ba (k:Nat){t:Tk}{cid key nonce:List UInt8}(hk:4400<=k)(hn:t.2.1.length<64)(ht:t.2.2.1.length<=30000)(hc:cid.length<=4144)(h16:nonce.length=16)(hkey:key.length<=1900) :
 z7y (k+100) t cid key nonce=some (zgb (k+100) t (cid,z7c (k+100) (z35 (k+100) t.2.2.1) nonce key,()),0,()):=by
 have hq:=z5r k (t:=t.2.2.1) (by omega) ht;have hs2:=z7u k (key:=z35 (k+100) t.2.2.1) (nonce:=nonce) (text:=key) (by omega) (by omega) h16 (by omega);have hs:zd2 (cid,z7c (k+100) (z35 (k+100) t.2.2.1) nonce key,()):=⟨by simp only;omega,by simp only;omega⟩
 simp only[z7y,z9g,z9f];rw[show decide ((64:Int)<=((t.2.1.length:Nat):Int))=false from decide_eq_false (by omega)];rw[show decide ((4144:Int)<((cid.length:Nat):Int))=false from decide_eq_false (by omega)];simp only[cond_false];rw[zjh k (by omega) ht,Option.bind_some,zye k hk (by omega) h16 (by omega),Option.bind_some];simp only;rw[z1a (by rfl),zoh k (by omega) (by omega) ht hs];rfl
theorem z18p (k:Nat)(hk:600<=k){t:Tk}{l:List Tk}(ht:t.2.2.1.length<=30000)(hl:l.length<=100)(htl:t.2.1.length<=1000)(hg:∀ d∈l,z143 d):zar (k+100) t l=some (t,l.map (zd4 (k+100) t),()):=by
 rw[zar,zpd (k+100) htl,Option.bind_some,zob];refine (z4u (fun v=>∃ (i:Nat) (a:List Tk),v=((t,a,()),(i:Int))/\i<=l.length/\a.length=i) (fun v=>l.length - v.2.toNat) (fun v=>some (t,v.1.2.1++(l.drop v.2.toNat).map (zd4 (k+100) t),())) ?_ (k+100) ((t,[],()),0) ⟨0,[],rfl,by omega,rfl⟩ (by simp only;omega)).trans (by rfl);rintro v r ⟨i,a,rfl,hi,ha⟩ hr;simp only[Int.toNat_natCast];rw[zik];by_cases hlt:i<l.length
 . have hgi:=hg _ (z6u l z1s i hlt);rw[zj (decide_eq_true (by omega)),zj (z2b hlt),Int.toNat_natCast,show (([]:List UInt8),(([]:List ((List UInt8)×((List UInt8)×Unit))),(([]:List UInt8),())))=z1s from rfl,z12q k hk (by have:=hgi.1;omega) ht hgi.2,Option.bind_some];rw[zj (decide_eq_true (by simp only;omega)),z2t (by omega),hr _ ⟨i+1,_,rfl,by omega,by simp[ha]⟩ (by simp only;omega)];simp only[Int.toNat_natCast];rw[z2k l z1s i hlt,List.map_cons,List.append_assoc];rfl
 . rw[z1a (decide_eq_false (by omega)),z6w l (by omega),List.map_nil,List.append_nil]
theorem sameH (N:Nat){l:List (List UInt8)}(hl:l.length<=10000000)(hN:l.length<N):z2j N l l=some true:=by
 simp only[z2j,z6n];rw[z1a (by simp)];rw[z4u (I:=fun (v:Int)=>∃ i:Nat,v=(i:Int)/\i<=l.length) (m:=fun v=>l.length - v.toNat) (R:=fun _=>some true) ?_ N 0 ⟨0,rfl,by omega⟩ (by simp;omega)];rintro v r ⟨i,rfl,hi⟩ hr;simp only[z42,Int.toNat_natCast];by_cases hlt:i<l.length
 . rw[zj (decide_eq_true (by omega)),zj (z2b hlt),zj (z2b hlt),z1a (by rw[beq_self_eq_true];rfl),z2t (by omega)];exact hr _ ⟨i+1,rfl,by omega⟩ (by simp;omega)
 . rw[z1a (decide_eq_false (by omega))]
theorem z1gr {l:List (List UInt8)}:∀ c∈l,c.length<=l.flatten.length:=by
 intro c hc;obtain⟨s,t,rfl⟩:=List.append_of_mem hc;simp;omega
theorem zvc {a:z9p}(ha:OkA a):∀ m∈a.2.2.1.map mkL,zd2 m:=by
 intro m hm;obtain⟨c,hc,rfl⟩:=List.mem_map.1 hm;have:=z1gr c hc;have:=ha.2.2;exact⟨by simp only[mkL];omega,by simp[mkL]⟩
theorem z14d (k:Nat)(hk:4400<=k){a:z9p}(ha:OkA a):(dH (k+100) a).2.2.1.length=32:=by
 have h1:=zqe k hk ha;have h2:=z7j a.2.1;have h3:=ha.1;exact z7x k (by omega) _ (zf5 k (by omega) (by omega) (by omega)) (zvc ha)
theorem z18h (k:Nat)(hk:4400<=k){a:z9p}(ha:OkA a):z143 (dH (k+100) a):=by
 have h:=z14d k hk ha;have h2:=ha.2.1;exact⟨by simp only[dH,List.length_map];omega,by omega⟩
theorem zxd (k:Nat)(hk:4400<=k){t:Tk}(ht:t.2.2.1.length=32){a:z9p}(ha:OkA a):GoodT (zd4 (k+100) t (dH (k+100) a)):=by
 have h1:=zqe k hk ha;have h:=z14d k hk ha;have hb:=zjl k (t:=t.2.2.1) (d:=(dH (k+100) a).2.2.1) (by omega) (by omega) (by omega);have h2:=ha.2.1;refine⟨?_,?_,?_,zvc ha⟩
 . show (sH (k+100) a).length<=4200;omega
 . show (zpq (k+100) t.2.2.1 (dH (k+100) a).2.2.1).length<=100;omega
 . show (a.2.2.1.map mkL).length<=64;rw[List.length_map];omega
theorem zsb (k:Nat)(hk:4400<=k){key:List UInt8}(hkey:key.length<=30000){l:List z9p}(hok:∀ a∈l,OkA a):(z7m (k+100) key l).2.2.1.length=32 :=
 z7x k (by omega) _ (zf5 k (by omega) hkey (by decide)) (zdp k hk l (zf5 k (by omega) hkey (by decide)) hok)
theorem zui (k:Nat)(hk:4400<=k){key:List UInt8}(hkey:key.length<=30000){l:List z9p}(hl:l.length<=8)(hok:∀ a∈l,OkA a):GoodT (z7m (k+100) key l):=by
 have h:=zsb k hk hkey hok;refine⟨show idH.length<=4200 by decide,by omega,?_,zdp k hk l (zf5 k (by omega) hkey (by decide)) hok⟩;show (z4t (k+100) (z4b (k+100) key idH) l).length<=64;rw[zc4];omega
theorem zkf (k:Nat)(hk:4400<=k){key:List UInt8}(hkey:key.length<=30000){b:zd5}(hb:GoodB b) :
 z21 (k+100) key b=some (if (zcz (k+100) key b).2=0 then (zcz (k+100) key b).1.texts else [],(zcz (k+100) key b).2,()):=by
 have hw:zhr b=true:=by
  unfold zhr;rw[Bool.and_eq_true];refine⟨decide_eq_true hb.len,?_⟩;rw[Bool.not_eq_true',List.any_eq_false];intro t ht;unfold zt0;have:t.2.1.length<=64:=by
   rcases List.mem_cons.1 ht with rfl|ht
   . exact hb.one.len
   . exact (hb.more t ht).len
  simp;omega
 have hv:=zs9 k hk hb hkey;rw[z21,zkd _ (by omega),hw,Option.bind_some,Bool.not_true,cond_false];cases hr:z4z (k+100) b with
 | none=>rw[hr] at hv;cases hv
 | some r =>
   rw[hr,Option.bind_some] at hv;rw[Option.bind_some,hv,Option.bind_some];by_cases h0:(zcz (k+100) key b).2=0
   . rw[z1a (by rw[h0];rfl),if_pos h0,h0];rfl
   . rw[zj (bne_iff_ne.2 h0),if_neg h0]
theorem zs8 (N:Nat)(hN:1000<N){key:List UInt8}{b:zd5}(h:8<b.2.1.length):z21 N key b=some ([],3,()):=by
 rw[z21,zkd N hN,show zhr b=false by unfold zhr;rw[decide_eq_false (by omega),Bool.false_and]];rfl
theorem zr7 {f:Tk->Tk}:∀ (l:List Tk) (j:Nat),j<l.length->(l.map f).getD j z1s=f (l.getD j z1s):=by
 intro l j h;simp[List.getD_eq_getElem?_getD,List.getElem?_map,List.getElem?_eq_getElem h]
theorem zza {N:Nat}{l:List z9p}{d:Tk}(h:d∈dsH N l):∃ a∈l,d=dH N a:=by
 obtain⟨a,ha,rfl⟩:=List.mem_map.1 h;exact⟨a,(List.mem_filter.1 ha).1,rfl⟩
theorem zw5 (k:Nat)(hk:4400<=k)(hw:z15 (k+100)=some true){key:List UInt8}(hkey:key.length<=100){l:List z9p}(hl:l.length<=8)(hok:∀ a∈l,OkA a)(k0:Bool->Option Bool)(ys:List Tk)
 (hb:zar (k+100) (z7m (k+100) key l) ys=some (z7m (k+100) key l,ys.map (zd4 (k+100) (z7m (k+100) key l)),())) (hlen:ys.length=(thH l).length+1)
 (hg:ys.length<=8->GoodB (z7m (k+100) key l,ys.map (zd4 (k+100) (z7m (k+100) key l)),()))
 (hd:∀ j,j<(thH l).length->(ys.map (zd4 (k+100) (z7m (k+100) key l))).getD j z1s=zd4 (k+100) (z7m (k+100) key l) ((dsH (k+100) l).getD j z1s)) :
 ((zar (k+100) (z7m (k+100) key l) ys).bind fun y4=>(z21 (k+100) key y4).bind fun y5=>cond ((11:Int) == (11:Int)) (cond (y5.2.1 == (11:Int)) ((z15 (k+100)).bind fun y6=>k0 y6) (cond (y5.2.1 == (3:Int)) ((z15 (k+100)).bind fun y6=>k0 y6) (k0 false))) (k0 false))=k0 true:=by
 rw[hb,Option.bind_some,hw];by_cases h8:ys.length<=8
 . have p2:=(ziw k hk (key:=key) (by omega) hl hok (ds:=ys.map (zd4 (k+100) (z7m (k+100) key l))) (by rw[List.length_map];omega) hd).1;rw[List.length_map,if_neg (by omega)] at p2;rw[zkf k hk (by omega) (hg h8),Option.bind_some,p2];simp only[beq_self_eq_true,cond_true,Option.bind_some]
 . rw[zs8 (k+100) (by omega) (b:=(z7m (k+100) key l,ys.map (zd4 (k+100) (z7m (k+100) key l)),())) (by simp only[List.length_map];omega),Option.bind_some];simp only[beq_self_eq_true,cond_true,Option.bind_some,show ((3:Int) == 11)=false from rfl,cond_false]
set_option maxHeartbeats 1000000 in
theorem zy2 (k:Nat) (hk:4400<=k) (hw:z15 (k+100)=some true) {key:List UInt8} (hkey:key.length<=100) {l:List z9p} (hl:l.length<=8) (hok:∀ a∈l,OkA a) (k0:Bool->Option Bool) :
 z1o (k+100) key (z7m (k+100) key l) (dsH (k+100) l) (zot l) (zxm l) k0=k0 true:=by
 have htg:=zsb k hk (key:=key) (by omega) hok;have hgt:=zui k hk (key:=key) (by omega) hl hok;have hth:(thH l).length<=l.length:=List.length_filter_le ..;have hdl:(dsH (k+100) l).length=(thH l).length:=by simp[dsH]
 have hown:(zot l).length<=8:=by
  have:=List.length_filter_le (fun a:z9p=>!a.1) l;unfold zot;rw[List.length_map];omega
 have hoth:(zxm l).length<=40:=by
  have key:∀ ys:List z9p,(∀ a∈ys,OkA a)->(ys.flatMap fun a=>a.2.2.1).length<=5*ys.length:=by
   intro ys
   induction ys with
   | nil=>intro _;simp
   | cons a ys ih =>
     intro h;have h1:=ih fun x hx=>h x (List.mem_cons_of_mem _ hx)
     have h2:=(h a List.mem_cons_self).2.1;simp only[List.flatMap_cons,List.length_append,List.length_cons];omega
  have:=key (thH l) (fun a ha=>hok a (List.mem_filter.1 ha).1);unfold zxm;omega
 have hbun:∀ ys:List Tk,(∀ d∈ys,d∈dsH (k+100) l)->ys.length<=100->zar (k+100) (z7m (k+100) key l) ys=some (z7m (k+100) key l,ys.map (zd4 (k+100) (z7m (k+100) key l)),()):=by
  intro ys h hy;refine z18p k (by omega) (by omega) hy (by have:=hgt.len;omega) fun d hd=>?_
  obtain⟨a,ha,rfl⟩:=zza (h d hd);exact z18h k hk (hok a ha)
 have hgb:∀ ys:List Tk,(∀ d∈ys,d∈dsH (k+100) l)->ys.length<=8->GoodB (z7m (k+100) key l,ys.map (zd4 (k+100) (z7m (k+100) key l)),()):=by
  intro ys h hy;refine⟨hgt,?_,by simpa using hy⟩;intro d hd;obtain⟨d',hd',rfl⟩:=List.mem_map.1 hd;obtain⟨a,ha,rfl⟩:=zza (h d' hd');exact zxd k hk htg (hok a ha)
 have p1:=ziw k hk (key:=key) (by omega) hl hok (ds:=(dsH (k+100) l).map (zd4 (k+100) (z7m (k+100) key l))) (by simp[hdl]) (fun j hj=>zr7 _ _ (by omega));rw[List.length_map,hdl,if_pos rfl] at p1;rw[z1o,porterlaw37_VerifyHonest_g25,hbun _ (fun _ h=>h) (by omega),Option.bind_some,zkf k hk (by omega) (hgb _ (fun _ h=>h) (by omega)),Option.bind_some];rw[p1.1,p1.2,if_pos rfl,z1a (by rfl),zj (decide_eq_true (by omega)),sameH (k+100) (by simp;omega) (by simp;omega),Option.bind_some,z1a (by rfl),Option.bind_some];simp only;rw[z2o];by_cases h0:(thH l).length=0
 . rw[zj (by rw[hdl,h0];rfl),hw];rfl
 rw[z1a (by rw[hdl];simp;intro e;rw[e] at h0;exact h0 rfl),z2n,porterlaw37_VerifyHonest_g30,zj (decide_eq_true (by omega))];have hcut:Go.Lift.cut (dsH (k+100) l) 1 (dsH (k+100) l).length=(dsH (k+100) l).drop 1:=by unfold Go.Lift.cut;rw[List.take_length]
 rw[hcut,hbun _ (fun d h=>List.mem_of_mem_drop h) (by rw[List.length_drop];omega),Option.bind_some,zkf k hk (by omega) (hgb _ (fun d h=>List.mem_of_mem_drop h) (by rw[List.length_drop];omega)),Option.bind_some];rw[zyn k hk (by omega) hok (by rw[List.length_map,List.length_drop];omega),Option.bind_some];have hm0:List.getD (dsH (k+100) l) 0 z1s∈dsH (k+100) l:=z6u _ _ 0 (by omega);have hmm:∀ d∈dsH (k+100) l++[List.getD (dsH (k+100) l) 0 z1s],d∈dsH (k+100) l:=by
  intro d hd;rcases List.mem_append.1 hd with hd|hd
  . exact hd
  . rw[List.mem_singleton.1 hd];exact hm0
 have hlen3:(dsH (k+100) l++[List.getD (dsH (k+100) l) 0 z1s]).length=(thH l).length+1:=by rw[List.length_append,hdl];rfl
 have hd3:∀ j,j<(thH l).length->((dsH (k+100) l++[List.getD (dsH (k+100) l) 0 z1s]).map (zd4 (k+100) (z7m (k+100) key l))).getD j z1s=zd4 (k+100) (z7m (k+100) key l) ((dsH (k+100) l).getD j z1s):=by
  intro j hj;have e:(dsH (k+100) l++[List.getD (dsH (k+100) l) 0 z1s]).getD j z1s=(dsH (k+100) l).getD j z1s:=by
   simp only[List.getD_eq_getElem?_getD];rw[List.getElem?_append_left (by omega)]
  rw[zr7 _ _ (by omega),e]
 rw[z2m,zj (show Go.Lift.inR (0:Int) (List.length (dsH (k+100) l))=true from z2b (n:=0) (by omega)),zj (decide_eq_true (by omega)),zj (decide_eq_true (by omega))];rw[show (([]:List UInt8),(([]:List ((List UInt8)×((List UInt8)×Unit))),(([]:List UInt8),())))=z1s from rfl];exact zw5 k hk hw hkey hl hok k0 _ (hbun _ hmm (by omega)) hlen3 (fun h=>hgb _ hmm h) hd3
theorem z11j (N:Nat)(key:List UInt8)(l:List z9p)(a:z9p):z7m N key (l++[a])=zgb N (z7m N key l) (zak N (z7m N key l).2.2.1 a):=by
 simp only[z7m,zgb,zlp,zws]
theorem z15f (k:Nat)(hk:4400<=k){a:z9p}(ha:OkA a):z43 (k+100) nbH z1d6 (ckH a.2.1) a.2.1=some (sH (k+100) a,0,()):=by
 have h1:=ha.1;have h2:=z7j a.2.1;exact zxz k hk (by decide) rfl (by omega)
theorem z1gt (k:Nat)(hk:4400<=k){a:z9p}(ha:OkA a):zo8 (k+100) nbH (sH (k+100) a) a.2.2.1=some (dH (k+100) a,0,()):=by
 have h1:=ha.1;have h2:=z7j a.2.1;have h3:=zqe k hk ha;have h4:=ha.2.1;have hr:=zsq k (n:=nbH) (nonce:=z1d6) (key:=ckH a.2.1) (text:=a.2.1) hk (by decide) rfl (by omega);rw[zri k hk (n:=nbH) (t:=sH (k+100) a) hr (by omega) (by omega) (by omega)];rw[zs3 k (by omega) a.2.2.1 _ (by simp only[List.length_nil];omega) (fun c hc=>by have:=z1gr c hc;have:=ha.2.2;omega)];rfl
def zn9:z9p:=(false,(([]:List UInt8),(([]:List (List UInt8)),())))
theorem z1h5 (k:Nat) (hk:4400<=k) {key:List UInt8} (hkey:key.length<=100) {l:List z9p} (hl:l.length<=8) {i:Nat} (hi:i<l.length) (hok:∀ a∈l.take i,OkA a) (ha:OkA (l.getD i zn9))
 (k0:Tk->List Tk->List (List UInt8)->List (List UInt8)->Int->Option Bool) (k1:Bool->Option Bool) :
 z26 (k+100) key l (z7m (k+100) key (l.take i)) (dsH (k+100) (l.take i)) (zot (l.take i)) (zxm (l.take i)) (i:Int) k0 k1
  = k0 (z7m (k+100) key (l.take (i+1))) (dsH (k+100) (l.take (i+1))) (zot (l.take (i+1))) (zxm (l.take (i+1))) 0:=by
 have htk:l.take (i+1)=l.take i++[l.getD i zn9]:=by
  rw[List.take_succ,List.getD_eq_getElem?_getD,List.getElem?_eq_getElem hi];rfl
 have hin:Go.Lift.inR (i:Int) (List.length l)=true:=z2b hi;have htg:=zsb k hk (key:=key) (by omega) hok;have hti:(l.take i).length<=8:=by rw[List.length_take];omega
 have hgt:=zui k hk (key:=key) (by omega) hti hok;have hlen:(z7m (k+100) key (l.take i)).2.1.length<=8:=by
  show (z4t (k+100) (z4b (k+100) key idH) (l.take i)).length<=8;rw[zc4];exact hti
 have h1:=ha.1;have h2:=z7j (l.getD i zn9).2.1;have h5:=ha.2.1;have hth:(thH (l.take i)).length<=(l.take i).length:=List.length_filter_le ..;have hdl:(dsH (k+100) (l.take i)).length=(thH (l.take i)).length:=by simp[dsH]
 have hown:(zot (l.take i)).length<=8:=by
  have:=List.length_filter_le (fun a:z9p=>!a.1) (l.take i);unfold zot;rw[List.length_map];omega
 have hoth:(zxm (l.take i)).length<=40:=by
  have key:∀ ys:List z9p,(∀ a∈ys,OkA a)->(ys.flatMap fun a=>a.2.2.1).length<=5*ys.length:=by
   intro ys
   induction ys with
   | nil=>intro _;simp
   | cons a ys ih =>
     intro h;have h1:=ih fun x hx=>h x (List.mem_cons_of_mem _ hx)
     have h2:=(h a List.mem_cons_self).2.1;simp only[List.flatMap_cons,List.length_append,List.length_cons];omega
  have:=key (thH (l.take i)) (fun a ha=>hok a (List.mem_filter.1 ha).1);unfold zxm;omega
 rw[htk,z11j];unfold z26;rw[show ((false,(([]:List UInt8),(([]:List (List UInt8)),()))):z9p)=zn9 from rfl];simp only[Int.toNat_natCast,hin,cond_true];cases hb:(l.getD i zn9).1 with
 | false =>
   have hlk:zak (k+100) (z7m (k+100) key (l.take i)).2.2.1 (l.getD i zn9)=((l.getD i zn9).2.1,[],()):=by unfold zak;rw[if_neg (by rw[hb];simp)]
   rw[Bool.not_false,cond_true,z18d k (by omega) (by omega) (by omega) (by omega),Option.bind_some,zj (decide_eq_true (by omega)),hlk];simp only[dsH,thH,zot,zxm,List.filter_append,List.filter_cons,List.filter_nil,hb,Bool.not_false,Bool.not_true,if_true,Bool.false_eq_true,if_false,List.append_nil,List.map_append,List.map_cons,List.map_nil,List.flatMap_append,List.flatMap_cons,List.flatMap_nil]
 | true =>
   have hlk:zak (k+100) (z7m (k+100) key (l.take i)).2.2.1 (l.getD i zn9)=(sH (k+100) (l.getD i zn9),z7c (k+100) (z35 (k+100) (z7m (k+100) key (l.take i)).2.2.1) z12e (ckH (l.getD i zn9).2.1),()):=by unfold zak;rw[if_pos hb]
   have hs:=zqe k hk ha;have e1:=z15f k hk ha;have e2:=z1gt k hk ha;have e3:=z1ba k (t:=z7m (k+100) key (l.take i)) (cid:=sH (k+100) (l.getD i zn9)) (key:=ckH (l.getD i zn9).2.1) (nonce:=z12e) hk (by omega) (by omega) (by omega) rfl (by omega);simp only[nbH,z1d6,z12e,ckH] at e1 e2 e3 hlk;rw[Bool.not_true,cond_false,zj (decide_eq_true (by omega)),e1,Option.bind_some,e2,Option.bind_some,z2x,z2w,z1a (by rfl)];simp only[bne_self_eq_false,cond_false];rw[e3,Option.bind_some,zj (decide_eq_true (by omega)),zj (decide_eq_true (by omega)),hlk];simp only[dsH,thH,zot,zxm,List.filter_append,List.filter_cons,List.filter_nil,hb,Bool.not_false,Bool.not_true,if_true,Bool.false_eq_true,if_false,List.append_nil,List.map_append,List.map_cons,List.map_nil,List.flatMap_append,List.flatMap_cons,List.flatMap_nil]
theorem zr3 (k:Nat) (hk:4400<=k) (hw:z15 (k+100)=some true) {key:List UInt8} {l:List z9p}:z1m (k+100) key l=some true:=by
 rw[z1m,z32,z31,hw];by_cases h1:100<key.length
 . rw[zj (decide_eq_true (by omega))];rfl
 rw[z1a (decide_eq_false (by omega))];by_cases h2:8<l.length
 . rw[zj (decide_eq_true (by omega))];rfl
 rw[z1a (decide_eq_false (by omega)),show z4h (k+100) key [105,100]=some (z4b (k+100) key idH) from zsp k (by omega) (by omega) (by decide),Option.bind_some,z4p];refine z4u (fun v=>∃ i:Nat,i<=l.length/\(∀ a∈l.take i,OkA a)/\v=(z7m (k+100) key (l.take i),dsH (k+100) (l.take i),zot (l.take i),zxm (l.take i),(i:Int))) (fun v=>l.length - v.2.2.2.2.toNat) (fun _=>some true) ?_ (k+100) _ ⟨0,by omega,by simp,rfl⟩ (by simp only;omega);rintro v r ⟨i,hi,hok,rfl⟩ hr;simp only;rw[z2v];by_cases hlt:i<l.length
 . rw[zj (decide_eq_true (by omega)),z30,z2z,z2y,hw,zj (z2b hlt)];rw[show ((false,(([]:List UInt8),(([]:List (List UInt8)),()))):z9p)=zn9 from rfl,Int.toNat_natCast];by_cases h3:300<(l.getD i zn9).2.1.length
   . rw[zj (decide_eq_true (by omega))];rfl
   rw[z1a (decide_eq_false (by omega)),zj (z2b hlt),show z38 (k+100) (l.getD i zn9).2.2.1 5 300=some (decide ((l.getD i zn9).2.2.1.length<=5/\(l.getD i zn9).2.2.1.flatten.length<=300)) from z11s (k+100) (many:=5) (most:=300) (by omega) (by omega) (by omega),Option.bind_some];by_cases h4:(l.getD i zn9).2.2.1.length<=5/\(l.getD i zn9).2.2.1.flatten.length<=300
   . rw[decide_eq_true h4,Bool.not_true,cond_false];have ha:OkA (l.getD i zn9):=⟨by omega,h4.1,h4.2⟩
     rw[z1h5 k hk (by omega) (by omega) hlt hok ha,z1a (by rfl),z2t (by omega)];refine hr _ ⟨i+1,by omega,?_,rfl⟩ (by simp only;omega);intro a hm;have htk:l.take (i+1)=l.take i++[l.getD i zn9]:=by
      rw[List.take_succ,List.getD_eq_getElem?_getD,List.getElem?_eq_getElem hlt];rfl
     rw[htk] at hm;rcases List.mem_append.1 hm with hm|hm
     . exact hok a hm
     . rw[List.mem_singleton.1 hm];exact ha
   . rw[decide_eq_false h4,Bool.not_false,cond_true];rfl
 . rw[z1a (decide_eq_false (by omega))];have e:i=l.length:=by omega
   subst e;rw[List.take_length] at hok ⊢;exact zy2 k hk hw (by omega) (by omega) hok _
end
end Go.Proofs.YtlhdohlpilippaaDoorLg
set_option linter.all false
set_option maxRecDepth 100000
namespace Go.Proofs.YtlhdohlpilippaaDoorLg
noncomputable section
open Go Go.Lift
theorem z14o (k:Nat):z15 (k+1100)=some true:=by kernel_rfl
end
end Go.Proofs.YtlhdohlpilippaaDoorLg
