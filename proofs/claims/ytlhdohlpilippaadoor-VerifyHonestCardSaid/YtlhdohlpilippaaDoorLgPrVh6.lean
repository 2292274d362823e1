import Derived.Test.YtlhdohlpilippaaDoorLgPrVh5
set_option linter.all false
set_option maxRecDepth 100000
namespace Go.Proofs.YtlhdohlpilippaaDoorLg
noncomputable section
open Go Go.Lift Go.Proofs.YtlhdohlpilippaaDoorPx
attribute [local irreducible] zw9 z7e zlv znq zxl
abbrev z9r:Type:=Bool×(List UInt8×(List (List UInt8)×Unit))
def ckH (x:List UInt8):List UInt8:=[99,97,118,101,97,116,32,107,101,121,32]++x
def nbH:List UInt8:=[110,111,116,97,114,121]
def z1d6:List UInt8:=[48,49,50,51,52,53,54,55,56,57,97,98,99,100,101,102]
def z12g:List UInt8:=[102,101,100,99,98,97,57,56,55,54,53,52,51,50,49,48]
def idH:List UInt8:=[105,100]
def zd6 (N:Nat)(t d:Tk):Tk:=(d.1,d.2.1,zps N t.2.2.1 d.2.2.1,())
def z145 (d:Tk):Prop:=d.2.1.length<=70/\d.2.2.1.length<=8000
def sH (N:Nat)(a:z9r):List UInt8:=z7e N nbH z1d6 (za6 (ckH a.2.1) a.2.1)
def dH (N:Nat)(a:z9r):Tk:=(sH N a,a.2.2.1.map mkL,zan N (z4d N (ckH a.2.1) (sH N a)) (a.2.2.1.map mkL),())
def zam (N:Nat)(g:List UInt8)(a:z9r):Lk:=if a.1=true then (sH N a,z7e N (z38 N g) z12g (ckH a.2.1),()) else (a.2.1,[],())
def z4v (N:Nat):List UInt8->List z9r->List Lk
 | _,[]=>[]
 | g,a::l=>zam N g a::z4v N (zg0 N g (zam N g a)) l
def thH (l:List z9r):List z9r:=l.filter fun a=>a.1
def zov (l:List z9r):List (List UInt8):=(l.filter fun a=>!a.1).map fun a=>a.2.1
def zxo (l:List z9r):List (List UInt8):=(thH l).flatMap fun a=>a.2.2.1
def dsH (N:Nat)(l:List z9r):List Tk:=(thH l).map (dH N)
def z7o (N:Nat)(key:List UInt8)(l:List z9r):Tk:=(idH,z4v N (z4d N key idH) l,zan N (z4d N key idH) (z4v N (z4d N key idH) l),())
def itH (N:Nat)(t:Tk)(a:z9r):ItD:=(zd6 N t (dH N a),zaa N (z4d N (ckH a.2.1) (sH N a)) (a.2.2.1.map mkL))
def OkA (a:z9r):Prop:=a.2.1.length<=300/\a.2.2.1.length<=5/\a.2.2.1.flatten.length<=300
theorem z7l (x:List UInt8):(ckH x).length=11+x.length:=by simp[ckH];omega
theorem zlr (N:Nat):∀ (l:List z9r) (g:List UInt8) (a:z9r),z4v N g (l++[a])=z4v N g l++[zam N (zan N g (z4v N g l)) a]
 | [],g,a=>rfl
 | b::l,g,a=>by simp only[List.cons_append,z4v,zlr N l,zny]
theorem zc6 (N:Nat):∀ (l:List z9r) (g:List UInt8),(z4v N g l).length=l.length
 | [],g=>rfl
 | b::l,g=>by simp only[z4v,List.length_cons,zc6 N l]
theorem zqg (k:Nat)(hk:4400<=k){a:z9r}(h:OkA a):(sH (k+100) a).length<=700/\48<=(sH (k+100) a).length:=by
 have h1:=h.1;have hl:=z7l a.2.1;have hf:=z5a (ckH a.2.1) a.2.1;have:=z7w k (key:=nbH) (nonce:=z1d6) (text:=za6 (ckH a.2.1) a.2.1) (by omega) (by decide) rfl (by omega);unfold sH;omega
theorem zor (k:Nat)(hk:4400<=k){g:List UInt8}(hg:g.length=32){a:z9r}(h:OkA a):(z7e (k+100) (z38 (k+100) g) z12g (ckH a.2.1)).length=48+(11+a.2.1.length):=by
 have h1:=h.1;have hl:=z7l a.2.1;have hq:=z5t k (t:=g) (by omega) (by omega);rw[z7w k (by omega) (by omega) rfl (by omega),hl]
theorem zg3 (k:Nat)(hk:4400<=k){g:List UInt8}(hg:g.length=32){a:z9r}(h:OkA a):zd4 (zam (k+100) g a):=by
 have h1:=h.1;unfold zam;split
 . have h2:=zqg k hk h;have h3:=zor k hk hg h;exact⟨by simp only;omega,by simp only;omega⟩
 . exact⟨by simp only;omega,by simp⟩
theorem zdr (k:Nat)(hk:4400<=k):∀ (l:List z9r) {g:List UInt8},g.length=32->(∀ a∈l,OkA a)->∀ m∈z4v (k+100) g l,zd4 m
 | [],g,_,_,m,hm=>by cases hm
 | a::l,g,hg,h,m,hm=>by
   have ha:=zg3 k hk hg (h a List.mem_cons_self);simp only[z4v] at hm;rcases List.mem_cons.1 hm with rfl|hm
   . exact ha
   . exact zdr k hk l (z4u k (by omega) (by omega) ha) (fun x hx=>h x (List.mem_cons_of_mem _ hx)) m hm
def zqo (n p:Nat):List Bool:=List.replicate p true++List.replicate (n - p) false
theorem z126 {n p:Nat}(h:p<n):(zqo n p).set p true=zqo n (p+1):=by
 obtain⟨m,rfl⟩:∃ m,n=p+(m+1):=⟨n - p - 1,by omega⟩
 unfold zqo;rw[show p+(m+1) - p=m+1 by omega,show p+(m+1) - (p+1)=m by omega,List.replicate_succ,List.set_append_right _ _ (by simp),List.length_replicate,Nat.sub_self,List.set_cons_zero,List.replicate_succ'];simp
theorem zvp (id:List UInt8):∀ (ts:List Tk) (p i:Nat),p<ts.length->(ts.getD p z1s).1=id->zf1 id ts (zqo ts.length p) i=some (i+p)
 | [],p,i,hp,_=>by simp at hp
 | t::ts,0,i,_,h=>by
   simp only[List.getD_cons_zero] at h;simp[zqo,List.replicate_succ,zf1,h]
 | t :: ts,p+1,i,hp,h=>by
   simp only[List.getD_cons_succ] at h;have e:zqo (t::ts).length (p+1)=true::zqo ts.length p:=by
    unfold zqo;rw[List.replicate_succ,List.length_cons,show ts.length+1 - (p+1)=ts.length - p by omega];rfl
   rw[e,zf1,if_neg (by simp),zvp id ts p (i+1) (by simpa using hp) h];congr 1;omega
theorem z11m (k:Nat)(hk:4400<=k){b:zd7}{st:SV}{g:List UInt8}(hg:g.length=32){a:z9r}(ha:OkA a)(h1:a.1=true){p:Nat}(hp:p<b.2.1.length)
 (hd:b.2.1.getD p z1s=zd6 (k+100) b.1 (dH (k+100) a)) (hu:st.used=zqo b.2.1.length p) :
 ∃ st',z9v (k+100) b st g (zam (k+100) g a)=(st',true)/\st'.used=zqo b.2.1.length (p+1)/\st'.items=st.items++[itH (k+100) b.1 a]/\st'.texts=st.texts:=by
 have hq:=z5t k (t:=g) (by omega) (by omega);have hl:=z7l a.2.1;have ha1:=ha.1;have hsl:=zor k hk hg ha;have hfs:=zrd k (key:=z38 (k+100) g) (nonce:=z12g) (text:=ckH a.2.1) hk (by omega) rfl (by omega);have ho:zli (k+100) (z38 (k+100) g) (z7e (k+100) (z38 (k+100) g) z12g (ckH a.2.1))=some (ckH a.2.1):=by
  unfold zli;rw[if_pos ⟨by omega,by omega,hfs.1⟩,hfs.2]
 have hfi:zf1 (sH (k+100) a) b.2.1 st.used 0=some p:=by
  rw[hu,zvp _ _ p 0 hp (by rw[hd];rfl),Nat.zero_add]
 have hlk:zam (k+100) g a=(sH (k+100) a,z7e (k+100) (z38 (k+100) g) z12g (ckH a.2.1),()):=by unfold zam;rw[if_pos h1]
 rw[hlk];unfold z9v;simp only;rw[ho];simp only;rw[hfi];simp only;rw[hd,if_pos (by rfl)];exact⟨_,rfl,by simp only;rw[hu,z126 hp],rfl,rfl⟩
theorem zdv (k:Nat) (hk:4400<=k) {b:zd7}:∀ (l:List z9r) (g:List UInt8) (st:SV) (p:Nat),g.length=32->(∀ a∈l,OkA a)->p+(thH l).length<=b.2.1.length →
 (∀ j,j<(thH l).length->b.2.1.getD (p+j) z1s=zd6 (k+100) b.1 ((dsH (k+100) l).getD j z1s))->st.used=zqo b.2.1.length p →
 ∃ st',z3c (k+100) b (z4v (k+100) g l) (zaa (k+100) g (z4v (k+100) g l)) st=(st',true)/\st'.used=zqo b.2.1.length (p+(thH l).length)/\st'.items=st.items++(thH l).map (itH (k+100) b.1)/\st'.texts=st.texts++zov l
 | [],g,st,p,_,_,_,_,hu=>⟨st,by simp only[z4v,z3c],by simpa[thH] using hu,by simp[thH],by simp[zov]⟩
 | a :: l,g,st,p,hg,hok,hp,hds,hu=>by
   have ha:=hok a List.mem_cons_self;have hsm:=zg3 k hk hg ha;have hn:=z4u k (t:=g) (by omega) (by omega) hsm;have hok':∀ x∈l,OkA x:=fun x hx=>hok x (List.mem_cons_of_mem _ hx)
   simp only[z4v,zaa,z3c];cases h1:a.1 with
   | false =>
     have hlk:zam (k+100) g a=(a.2.1,[],()):=by unfold zam;rw[if_neg (by rw[h1];simp)]
     have et:thH (a::l)=thH l:=by simp[thH,h1]
     have eo:zov (a::l)=a.2.1::zov l:=by simp[zov,h1]
     have ed:dsH (k+100) (a::l)=dsH (k+100) l:=by simp[dsH,et]
     rw[if_pos (by rw[hlk])];rw[et] at hp hds ⊢;rw[ed] at hds;obtain⟨st',e1,e2,e3,e4⟩:=zdv k hk l _ { st with texts:=st.texts++[(zam (k+100) g a).1] } p hn hok' hp hds hu;exact⟨st',e1,e2,e3,by rw[e4,eo,hlk];simp⟩
   | true =>
     have hlk:zam (k+100) g a=(sH (k+100) a,z7e (k+100) (z38 (k+100) g) z12g (ckH a.2.1),()):=by unfold zam;rw[if_pos h1]
     have et:thH (a::l)=a::thH l:=by simp[thH,h1]
     have eo:zov (a::l)=zov l:=by simp[zov,h1]
     have ed:dsH (k+100) (a::l)=dH (k+100) a::dsH (k+100) l:=by simp[dsH,et]
     rw[et] at hp hds ⊢;rw[ed] at hds;simp only[List.length_cons] at hp hds ⊢;have hsl:=zor k hk hg ha;rw[if_neg (by rw[hlk];intro e;have:=congrArg List.length e;simp only at this;rw[hsl] at this;simp at this)];obtain⟨s1,t1,t2,t3,t4⟩:=z11m k hk (st:=st) hg ha h1 (p:=p) (by omega) (by simpa using hds 0 (by omega)) hu;rw[t1];simp only;obtain⟨st',e1,e2,e3,e4⟩:=zdv k hk l (zg0 (k+100) g (zam (k+100) g a)) s1 (p+1) hn hok' (by omega) (fun j hj=>by
      have:=hds (j+1) (by omega);rw[show p+1+j=p+(j+1) by omega];simpa using this) t2
     exact⟨st',e1,by rw[e2];congr 1;omega,by rw[e3,t3];simp,by rw[e4,t4,eo]⟩
theorem zr4 (N:Nat)(b:zd7):∀ (cs:List (List UInt8)) (gs:List (List UInt8)) (st:SV),cs.length<=gs.length →
 ∃ st',z3c N b (cs.map mkL) gs st=(st',true)/\st'.used=st.used/\st'.items=st.items/\st'.texts=st.texts++cs
 | [],gs,st,_=>⟨st,by simp[z3c],rfl,rfl,by simp⟩
 | c::cs,[],st,h=>by simp at h
 | c::cs,g::gs,st,h=>by
   simp only[List.map_cons,z3c];rw[if_pos (by rfl)];obtain⟨st',e1,e2,e3,e4⟩:=zr4 N b cs gs { st with texts:=st.texts++[(mkL c).1] } (by simpa using h);exact⟨st',e1,e2,e3,by rw[e4];simp[mkL]⟩
theorem znp (N:Nat)(b:zd7):∀ (ys:List z9r) (f i:Nat) (st:SV),st.items.drop i=ys.map (itH N b.1)->ys.length<f →
 ∃ st',z5f N b f i st=(st',true)/\st'.used=st.used/\st'.texts=st.texts++ys.flatMap fun a=>a.2.2.1
 | ys,0,i,st,_,hf=>by omega
 | [],f+1,i,st,h,_=>by
   have:st.items.length<=i:=by simpa using h
   rw[z5f,if_neg (by omega)];exact⟨st,rfl,rfl,by simp⟩
 | a :: ys,f+1,i,st,h,hf=>by
   have hlt:i<st.items.length:=by
    rcases Nat.lt_or_ge i st.items.length with h1|h1
    . exact h1
    . rw[List.drop_of_length_le h1] at h;simp at h
   have hc:=z2k st.items (z1s,[]) i hlt;rw[h,List.map_cons,List.cons.injEq] at hc;rw[z5f,if_pos hlt,<- hc.1];obtain⟨s,e1,e2,e3,e4⟩:=zr4 N b a.2.2.1 (itH N b.1 a).2 st (by simp only[itH];rw[z6a];simp);have e0:(itH N b.1 a).1.2.1=a.2.2.1.map mkL:=rfl;rw[e0,e1];simp only;obtain⟨s2,g1,g2,g3⟩:=znp N b ys f (i+1) s (by rw[e3];exact hc.2.symm) (by simpa using hf);exact⟨s2,g1,by rw[g2,e2],by rw[g3,e4];simp⟩
theorem ziy (k:Nat) (hk:4400<=k) {key:List UInt8} (hkey:key.length<=30000) {l:List z9r} (hl:l.length<=8) (hok:∀ a∈l,OkA a) {ds:List Tk} (hn:(thH l).length<=ds.length)
 (hds:∀ j,j<(thH l).length->ds.getD j z1s=zd6 (k+100) (z7o (k+100) key l) ((dsH (k+100) l).getD j z1s)) :
 (zd1 (k+100) key (z7o (k+100) key l,ds,())).2=(if ds.length=(thH l).length then 0 else 11)/\(zd1 (k+100) key (z7o (k+100) key l,ds,())).1.texts=zov l++zxo l:=by
 have hr:=zf7 k (c:=key) (id:=idH) (by omega) hkey (by decide);have hth:(thH l).length<=l.length:=List.length_filter_le ..;obtain⟨s1,a1,a2,a3,a4⟩:=zdv k hk (b:=(z7o (k+100) key l,ds,())) l (z4d (k+100) key idH) (stB (k+100) key (z7o (k+100) key l,ds,())) 0 hr hok (by simpa using hn) (by simpa using hds) (by simp[stB,stA,zqo]);have hd1:s1.items.drop 1=(thH l).map (itH (k+100) (z7o (k+100) key l)):=by rw[a3];simp[stB]
 obtain⟨s2,b1,b2,b3⟩:=znp (k+100) (z7o (k+100) key l,ds,()) (thH l) 19 1 s1 hd1 (by omega);have hout:z5f (k+100) (z7o (k+100) key l,ds,()) 20 0 (stB (k+100) key (z7o (k+100) key l,ds,()))=(s2,true):=by
  rw[z5f,if_pos (by simp[stB])];have e:(stB (k+100) key (z7o (k+100) key l,ds,())).items.getD 0 (z1s,[])=(z7o (k+100) key l,zaa (k+100) (z4d (k+100) key idH) (z4v (k+100) (z4d (k+100) key idH) l)):=rfl;rw[e];simp only;have e2:(z7o (k+100) key l).2.1=z4v (k+100) (z4d (k+100) key idH) l:=rfl;rw[e2,a1];exact b1
 have hu:s2.used=zqo ds.length (thH l).length:=by rw[b2,a2];simp
 unfold zd1;rw[if_pos (by rfl),hout];simp only;constructor
 . rw[hu];by_cases h:ds.length=(thH l).length
   . rw[if_pos h,if_pos ⟨trivial,by simp[zqo,h]⟩]
   . rw[if_neg h,if_neg (by
    rintro⟨_,e⟩;have:(zqo ds.length (thH l).length).contains false=true:=by
     simp only[List.contains_iff_mem,zqo,List.mem_append,List.mem_replicate];exact .inr ⟨by omega,trivial⟩
    rw[this] at e;cases e)]
 . rw[b3,a4];simp[stB,stA,zxo]
theorem zw6 (N:Nat) {b:zd7} {st s:SV} {g:List UInt8} {l:Lk} (h:z9v N b st g l=(s,true)):zjr s.used=zjr st.used+1/\s.used.length=st.used.length:=by
 unfold z9v at h;simp only at h;split at h
 . simp at h
 . split at h
   . simp at h
   . rename_i a hf;obtain⟨_,_,_,_,_,_,g7⟩:=zes _ _ _ _ _ hf;split at h
     . simp only[Prod.mk.injEq,and_true] at h;subst h;exact⟨by simpa using g7,by simp⟩
     . simp at h
theorem zie (N:Nat) {b:zd7}:∀ (ls:List Lk) (gs:List (List UInt8)) (st s:SV),z3c N b ls gs st=(s,true)->zjr s.used=zjr st.used+z9u ls/\s.used.length=st.used.length
 | [],gs,st,s,h=>by
   rw[z3c] at h;cases h;exact⟨rfl,rfl⟩
 | l::ls,[],st,s,h=>by simp[z3c] at h
 | l :: ls,g::gs,st,s,h=>by
   rw[z3c] at h;rw[zbn];split at h
   . rename_i e;obtain⟨h1,h2⟩:=zie N ls gs _ s h;simp only at h1 h2;exact⟨by rw[h1,if_pos e];omega,h2⟩
   . rename_i e;rw[if_neg e];split at h
     . rename_i s1 h3;obtain⟨h1,h2⟩:=zie N ls gs s1 s h;obtain⟨h4,h5⟩:=zw6 N h3;exact⟨by rw[h1,h4];omega,by rw[h2,h5]⟩
     . simp at h
theorem zir (k:Nat)(hk:4400<=k):∀ (l:List z9r) {g:List UInt8},g.length=32->(∀ a∈l,OkA a)->z9u (z4v (k+100) g l)=(thH l).length
 | [],g,_,_=>rfl
 | a :: l,g,hg,hok=>by
   have ha:=hok a List.mem_cons_self;have hsm:=zg3 k hk hg ha;have hn:=z4u k (t:=g) (by omega) (by omega) hsm;rw[z4v,zbn,zir k hk l hn (fun x hx=>hok x (List.mem_cons_of_mem _ hx))];cases h1:a.1 with
   | false =>
     rw[if_pos (by unfold zam;rw[if_neg (by rw[h1];simp)])];simp[thH,h1]
   | true =>
     have hsl:=zor k hk hg ha;rw[if_neg (by unfold zam;rw[if_pos h1];intro e;have:=congrArg List.length e;simp only at this;rw[hsl] at this;simp at this)];simp[thH,h1];omega
theorem zyp (k:Nat)(hk:4400<=k){key:List UInt8}(hkey:key.length<=30000){l:List z9r}(hok:∀ a∈l,OkA a){ds:List Tk}(hn:ds.length<(thH l).length) :
 (zd1 (k+100) key (z7o (k+100) key l,ds,())).2=11:=by
 have hr:=zf7 k (c:=key) (id:=idH) (by omega) hkey (by decide);unfold zd1;rw[if_pos (by rfl),z5f,if_pos (by simp[stB])];have e:(stB (k+100) key (z7o (k+100) key l,ds,())).items.getD 0 (z1s,[])=(z7o (k+100) key l,zaa (k+100) (z4d (k+100) key idH) (z4v (k+100) (z4d (k+100) key idH) l)):=rfl;rw[e];simp only;cases hi:z3c (k+100) (z7o (k+100) key l,ds,()) (z7o (k+100) key l).2.1 (zaa (k+100) (z4d (k+100) key idH) (z4v (k+100) (z4d (k+100) key idH) l)) (stB (k+100) key (z7o (k+100) key l,ds,())) with
 | mk s ok =>
   cases ok with
   | false=>simp
   | true =>
     exfalso;obtain⟨h1,h2⟩:=zie _ _ _ _ _ hi;have h3:=zk1 s.used;have h4:z9u (z7o (k+100) key l).2.1=(thH l).length:=zir k hk l hr hok;have h5:(stB (k+100) key (z7o (k+100) key l,ds,())).used.length=ds.length:=by simp[stB,stA]
     omega
end
end Go.Proofs.YtlhdohlpilippaaDoorLg
set_option linter.all false
set_option maxRecDepth 100000
namespace Go.Proofs.YtlhdohlpilippaaDoorLg
noncomputable section
open Go Go.Lift Go.Proofs.YtlhdohlpilippaaDoorPx
attribute [local irreducible] zw9 z7e zlv znq zxl
theorem z1ba (k:Nat){t:Tk}{cid key nonce:List UInt8}(hk:4400<=k)(hn:t.2.1.length<64)(ht:t.2.2.1.length<=30000)(hc:cid.length<=4144)(h16:nonce.length=16)(hkey:key.length<=1900) :
 z80 (k+100) t cid key nonce=some (zgd (k+100) t (cid,z7e (k+100) (z38 (k+100) t.2.2.1) nonce key,()),0,()):=by
 have hq:=z5t k (t:=t.2.2.1) (by omega) ht;have hs2:=z7w k (key:=z38 (k+100) t.2.2.1) (nonce:=nonce) (text:=key) (by omega) (by omega) h16 (by omega);have hs:zd4 (cid,z7e (k+100) (z38 (k+100) t.2.2.1) nonce key,()):=⟨by simp only;omega,by simp only;omega⟩
 simp only[z80,z9i,z9h];rw[show decide ((64:Int)<=((t.2.1.length:Nat):Int))=false from decide_eq_false (by omega)];rw[show decide ((4144:Int)<((cid.length:Nat):Int))=false from decide_eq_false (by omega)];simp only[cond_false];rw[zjj k (by omega) ht,Option.bind_some,zyg k hk (by omega) h16 (by omega),Option.bind_some];simp only;rw[z1a (by rfl),zoj k (by omega) (by omega) ht hs];rfl
theorem z18p (k:Nat)(hk:600<=k){t:Tk}{l:List Tk}(ht:t.2.2.1.length<=30000)(hl:l.length<=100)(htl:t.2.1.length<=1000)(hg:∀ d∈l,z145 d):zat (k+100) t l=some (t,l.map (zd6 (k+100) t),()):=by
 rw[zat,zpf (k+100) htl,Option.bind_some,zod];refine (z4w (fun v=>∃ (i:Nat) (a:List Tk),v=((t,a,()),(i:Int))/\i<=l.length/\a.length=i) (fun v=>l.length - v.2.toNat) (fun v=>some (t,v.1.2.1++(l.drop v.2.toNat).map (zd6 (k+100) t),())) ?_ (k+100) ((t,[],()),0) ⟨0,[],rfl,by omega,rfl⟩ (by simp only;omega)).trans (by rfl);rintro v r ⟨i,a,rfl,hi,ha⟩ hr;simp only[Int.toNat_natCast];rw[zim];by_cases hlt:i<l.length
 . have hgi:=hg _ (z6w l z1s i hlt);rw[zj (decide_eq_true (by omega)),zj (z2b hlt),Int.toNat_natCast,show (([]:List UInt8),(([]:List ((List UInt8)×((List UInt8)×Unit))),(([]:List UInt8),())))=z1s from rfl,z12s k hk (by have:=hgi.1;omega) ht hgi.2,Option.bind_some];rw[zj (decide_eq_true (by simp only;omega)),z2v (by omega),hr _ ⟨i+1,_,rfl,by omega,by simp[ha]⟩ (by simp only;omega)];simp only[Int.toNat_natCast];rw[z2k l z1s i hlt,List.map_cons,List.append_assoc];rfl
 . rw[z1a (decide_eq_false (by omega)),z6y l (by omega),List.map_nil,List.append_nil]
theorem sameH (N:Nat){l:List (List UInt8)}(hl:l.length<=10000000)(hN:l.length<N):z2j N l l=some true:=by
 simp only[z2j,z6p];rw[z1a (by simp)];rw[z4w (I:=fun (v:Int)=>∃ i:Nat,v=(i:Int)/\i<=l.length) (m:=fun v=>l.length - v.toNat) (R:=fun _=>some true) ?_ N 0 ⟨0,rfl,by omega⟩ (by simp;omega)];rintro v r ⟨i,rfl,hi⟩ hr;simp only[z44,Int.toNat_natCast];by_cases hlt:i<l.length
 . rw[zj (decide_eq_true (by omega)),zj (z2b hlt),zj (z2b hlt),z1a (by rw[beq_self_eq_true];rfl),z2v (by omega)];exact hr _ ⟨i+1,rfl,by omega⟩ (by simp;omega)
 . rw[z1a (decide_eq_false (by omega))]
theorem z1gr {l:List (List UInt8)}:∀ c∈l,c.length<=l.flatten.length:=by
 intro c hc;obtain⟨s,t,rfl⟩:=List.append_of_mem hc;simp;omega
theorem zve {a:z9r}(ha:OkA a):∀ m∈a.2.2.1.map mkL,zd4 m:=by
 intro m hm;obtain⟨c,hc,rfl⟩:=List.mem_map.1 hm;have:=z1gr c hc;have:=ha.2.2;exact⟨by simp only[mkL];omega,by simp[mkL]⟩
theorem z14d (k:Nat)(hk:4400<=k){a:z9r}(ha:OkA a):(dH (k+100) a).2.2.1.length=32:=by
 have h1:=zqg k hk ha;have h2:=z7l a.2.1;have h3:=ha.1;exact z7z k (by omega) _ (zf7 k (by omega) (by omega) (by omega)) (zve ha)
theorem z18h (k:Nat)(hk:4400<=k){a:z9r}(ha:OkA a):z145 (dH (k+100) a):=by
 have h:=z14d k hk ha;have h2:=ha.2.1;exact⟨by simp only[dH,List.length_map];omega,by omega⟩
theorem zxf (k:Nat)(hk:4400<=k){t:Tk}(ht:t.2.2.1.length=32){a:z9r}(ha:OkA a):GoodT (zd6 (k+100) t (dH (k+100) a)):=by
 have h1:=zqg k hk ha;have h:=z14d k hk ha;have hb:=zjn k (t:=t.2.2.1) (d:=(dH (k+100) a).2.2.1) (by omega) (by omega) (by omega);have h2:=ha.2.1;refine⟨?_,?_,?_,zve ha⟩
 . show (sH (k+100) a).length<=4200;omega
 . show (zps (k+100) t.2.2.1 (dH (k+100) a).2.2.1).length<=100;omega
 . show (a.2.2.1.map mkL).length<=64;rw[List.length_map];omega
theorem zsd (k:Nat)(hk:4400<=k){key:List UInt8}(hkey:key.length<=30000){l:List z9r}(hok:∀ a∈l,OkA a):(z7o (k+100) key l).2.2.1.length=32 :=
 z7z k (by omega) _ (zf7 k (by omega) hkey (by decide)) (zdr k hk l (zf7 k (by omega) hkey (by decide)) hok)
theorem zuk (k:Nat)(hk:4400<=k){key:List UInt8}(hkey:key.length<=30000){l:List z9r}(hl:l.length<=8)(hok:∀ a∈l,OkA a):GoodT (z7o (k+100) key l):=by
 have h:=zsd k hk hkey hok;refine⟨show idH.length<=4200 by decide,by omega,?_,zdr k hk l (zf7 k (by omega) hkey (by decide)) hok⟩;show (z4v (k+100) (z4d (k+100) key idH) l).length<=64;rw[zc6];omega
theorem zkh (k:Nat)(hk:4400<=k){key:List UInt8}(hkey:key.length<=30000){b:zd7}(hb:GoodB b) :
 z21 (k+100) key b=some (if (zd1 (k+100) key b).2=0 then (zd1 (k+100) key b).1.texts else [],(zd1 (k+100) key b).2,()):=by
 have hw:zht b=true:=by
  unfold zht;rw[Bool.and_eq_true];refine⟨decide_eq_true hb.len,?_⟩;rw[Bool.not_eq_true',List.any_eq_false];intro t ht;unfold zt2;have:t.2.1.length<=64:=by
   rcases List.mem_cons.1 ht with rfl|ht
   . exact hb.one.len
   . exact (hb.more t ht).len
  simp;omega
 have hv:=zsb k hk hb hkey;rw[z21,zkf _ (by omega),hw,Option.bind_some,Bool.not_true,cond_false];cases hr:z52 (k+100) b with
 | none=>rw[hr] at hv;cases hv
 | some r =>
   rw[hr,Option.bind_some] at hv;rw[Option.bind_some,hv,Option.bind_some];by_cases h0:(zd1 (k+100) key b).2=0
   . rw[z1a (by rw[h0];rfl),if_pos h0,h0];rfl
   . rw[zj (bne_iff_ne.2 h0),if_neg h0]
theorem zsa (N:Nat)(hN:1000<N){key:List UInt8}{b:zd7}(h:8<b.2.1.length):z21 N key b=some ([],3,()):=by
 rw[z21,zkf N hN,show zht b=false by unfold zht;rw[decide_eq_false (by omega),Bool.false_and]];rfl
theorem zr9 {f:Tk->Tk}:∀ (l:List Tk) (j:Nat),j<l.length->(l.map f).getD j z1s=f (l.getD j z1s):=by
 intro l j h;simp[List.getD_eq_getElem?_getD,List.getElem?_map,List.getElem?_eq_getElem h]
theorem zzc {N:Nat}{l:List z9r}{d:Tk}(h:d∈dsH N l):∃ a∈l,d=dH N a:=by
 obtain⟨a,ha,rfl⟩:=List.mem_map.1 h;exact⟨a,(List.mem_filter.1 ha).1,rfl⟩
theorem zw7 (k:Nat)(hk:4400<=k)(hw:z15 (k+100)=some true){key:List UInt8}(hkey:key.length<=100){l:List z9r}(hl:l.length<=8)(hok:∀ a∈l,OkA a)(k0:Bool->Option Bool)(ys:List Tk)
 (hb:zat (k+100) (z7o (k+100) key l) ys=some (z7o (k+100) key l,ys.map (zd6 (k+100) (z7o (k+100) key l)),())) (hlen:ys.length=(thH l).length+1)
 (hg:ys.length<=8->GoodB (z7o (k+100) key l,ys.map (zd6 (k+100) (z7o (k+100) key l)),()))
 (hd:∀ j,j<(thH l).length->(ys.map (zd6 (k+100) (z7o (k+100) key l))).getD j z1s=zd6 (k+100) (z7o (k+100) key l) ((dsH (k+100) l).getD j z1s)) :
 ((zat (k+100) (z7o (k+100) key l) ys).bind fun y4=>(z21 (k+100) key y4).bind fun y5=>cond ((11:Int) == (11:Int)) (cond (y5.2.1 == (11:Int)) ((z15 (k+100)).bind fun y6=>k0 y6) (cond (y5.2.1 == (3:Int)) ((z15 (k+100)).bind fun y6=>k0 y6) (k0 false))) (k0 false))=k0 true:=by
 rw[hb,Option.bind_some,hw];by_cases h8:ys.length<=8
 . have p2:=(ziy k hk (key:=key) (by omega) hl hok (ds:=ys.map (zd6 (k+100) (z7o (k+100) key l))) (by rw[List.length_map];omega) hd).1;rw[List.length_map,if_neg (by omega)] at p2;rw[zkh k hk (by omega) (hg h8),Option.bind_some,p2];simp only[beq_self_eq_true,cond_true,Option.bind_some]
 . rw[zsa (k+100) (by omega) (b:=(z7o (k+100) key l,ys.map (zd6 (k+100) (z7o (k+100) key l)),())) (by simp only[List.length_map];omega),Option.bind_some];simp only[beq_self_eq_true,cond_true,Option.bind_some,show ((3:Int) == 11)=false from rfl,cond_false]
set_option maxHeartbeats 1000000 in
theorem zy4 (k:Nat) (hk:4400<=k) (hw:z15 (k+100)=some true) {key:List UInt8} (hkey:key.length<=100) {l:List z9r} (hl:l.length<=8) (hok:∀ a∈l,OkA a) (k0:Bool->Option Bool) :
 z1o (k+100) key (z7o (k+100) key l) (dsH (k+100) l) (zov l) (zxo l) k0=k0 true:=by
 have htg:=zsd k hk (key:=key) (by omega) hok;have hgt:=zuk k hk (key:=key) (by omega) hl hok;have hth:(thH l).length<=l.length:=List.length_filter_le ..;have hdl:(dsH (k+100) l).length=(thH l).length:=by simp[dsH]
 have hown:(zov l).length<=8:=by
  have:=List.length_filter_le (fun a:z9r=>!a.1) l;unfold zov;rw[List.length_map];omega
 have hoth:(zxo l).length<=40:=by
  have key:∀ ys:List z9r,(∀ a∈ys,OkA a)->(ys.flatMap fun a=>a.2.2.1).length<=5*ys.length:=by
   intro ys
   induction ys with
   | nil=>intro _;simp
   | cons a ys ih =>
     intro h;have h1:=ih fun x hx=>h x (List.mem_cons_of_mem _ hx)
     have h2:=(h a List.mem_cons_self).2.1;simp only[List.flatMap_cons,List.length_append,List.length_cons];omega
  have:=key (thH l) (fun a ha=>hok a (List.mem_filter.1 ha).1);unfold zxo;omega
 have hbun:∀ ys:List Tk,(∀ d∈ys,d∈dsH (k+100) l)->ys.length<=100->zat (k+100) (z7o (k+100) key l) ys=some (z7o (k+100) key l,ys.map (zd6 (k+100) (z7o (k+100) key l)),()):=by
  intro ys h hy;refine z18p k (by omega) (by omega) hy (by have:=hgt.len;omega) fun d hd=>?_
  obtain⟨a,ha,rfl⟩:=zzc (h d hd);exact z18h k hk (hok a ha)
 have hgb:∀ ys:List Tk,(∀ d∈ys,d∈dsH (k+100) l)->ys.length<=8->GoodB (z7o (k+100) key l,ys.map (zd6 (k+100) (z7o (k+100) key l)),()):=by
  intro ys h hy;refine⟨hgt,?_,by simpa using hy⟩;intro d hd;obtain⟨d',hd',rfl⟩:=List.mem_map.1 hd;obtain⟨a,ha,rfl⟩:=zzc (h d' hd');exact zxf k hk htg (hok a ha)
 have p1:=ziy k hk (key:=key) (by omega) hl hok (ds:=(dsH (k+100) l).map (zd6 (k+100) (z7o (k+100) key l))) (by simp[hdl]) (fun j hj=>zr9 _ _ (by omega));rw[List.length_map,hdl,if_pos rfl] at p1;rw[z1o,z2n,hbun _ (fun _ h=>h) (by omega),Option.bind_some,zkh k hk (by omega) (hgb _ (fun _ h=>h) (by omega)),Option.bind_some];rw[p1.1,p1.2,if_pos rfl,z1a (by rfl),zj (decide_eq_true (by omega)),sameH (k+100) (by simp;omega) (by simp;omega),Option.bind_some,z1a (by rfl),Option.bind_some];simp only;rw[z2q];by_cases h0:(thH l).length=0
 . rw[zj (by rw[hdl,h0];rfl),hw];rfl
 rw[z1a (by rw[hdl];simp;intro e;rw[e] at h0;exact h0 rfl),z2p,z2m,zj (decide_eq_true (by omega))];have hcut:Go.Lift.cut (dsH (k+100) l) 1 (dsH (k+100) l).length=(dsH (k+100) l).drop 1:=by unfold Go.Lift.cut;rw[List.take_length]
 rw[hcut,hbun _ (fun d h=>List.mem_of_mem_drop h) (by rw[List.length_drop];omega),Option.bind_some,zkh k hk (by omega) (hgb _ (fun d h=>List.mem_of_mem_drop h) (by rw[List.length_drop];omega)),Option.bind_some];rw[zyp k hk (by omega) hok (by rw[List.length_map,List.length_drop];omega),Option.bind_some];have hm0:List.getD (dsH (k+100) l) 0 z1s∈dsH (k+100) l:=z6w _ _ 0 (by omega);have hmm:∀ d∈dsH (k+100) l++[List.getD (dsH (k+100) l) 0 z1s],d∈dsH (k+100) l:=by
  intro d hd;rcases List.mem_append.1 hd with hd|hd
  . exact hd
  . rw[List.mem_singleton.1 hd];exact hm0
 have hlen3:(dsH (k+100) l++[List.getD (dsH (k+100) l) 0 z1s]).length=(thH l).length+1:=by rw[List.length_append,hdl];rfl
 have hd3:∀ j,j<(thH l).length->((dsH (k+100) l++[List.getD (dsH (k+100) l) 0 z1s]).map (zd6 (k+100) (z7o (k+100) key l))).getD j z1s=zd6 (k+100) (z7o (k+100) key l) ((dsH (k+100) l).getD j z1s):=by
  intro j hj;have e:(dsH (k+100) l++[List.getD (dsH (k+100) l) 0 z1s]).getD j z1s=(dsH (k+100) l).getD j z1s:=by
   simp only[List.getD_eq_getElem?_getD];rw[List.getElem?_append_left (by omega)]
  rw[zr9 _ _ (by omega),e]
 rw[z2o,zj (show Go.Lift.inR (0:Int) (List.length (dsH (k+100) l))=true from z2b (n:=0) (by omega)),zj (decide_eq_true (by omega)),zj (decide_eq_true (by omega))];rw[show (([]:List UInt8),(([]:List ((List UInt8)×((List UInt8)×Unit))),(([]:List UInt8),())))=z1s from rfl];exact zw7 k hk hw hkey hl hok k0 _ (hbun _ hmm (by omega)) hlen3 (fun h=>hgb _ hmm h) hd3
theorem z11l (N:Nat)(key:List UInt8)(l:List z9r)(a:z9r):z7o N key (l++[a])=zgd N (z7o N key l) (zam N (z7o N key l).2.2.1 a):=by
 simp only[z7o,zgd,zlr,zwu]
theorem z15f (k:Nat)(hk:4400<=k){a:z9r}(ha:OkA a):z45 (k+100) nbH z1d6 (ckH a.2.1) a.2.1=some (sH (k+100) a,0,()):=by
 have h1:=ha.1;have h2:=z7l a.2.1;exact zy1 k hk (by decide) rfl (by omega)
theorem z1gt (k:Nat)(hk:4400<=k){a:z9r}(ha:OkA a):zoa (k+100) nbH (sH (k+100) a) a.2.2.1=some (dH (k+100) a,0,()):=by
 have h1:=ha.1;have h2:=z7l a.2.1;have h3:=zqg k hk ha;have h4:=ha.2.1;have hr:=zss k (n:=nbH) (nonce:=z1d6) (key:=ckH a.2.1) (text:=a.2.1) hk (by decide) rfl (by omega);rw[zrk k hk (n:=nbH) (t:=sH (k+100) a) hr (by omega) (by omega) (by omega)];rw[zs5 k (by omega) a.2.2.1 _ (by simp only[List.length_nil];omega) (fun c hc=>by have:=z1gr c hc;have:=ha.2.2;omega)];rfl
def znb:z9r:=(false,(([]:List UInt8),(([]:List (List UInt8)),())))
theorem z1h5 (k:Nat) (hk:4400<=k) {key:List UInt8} (hkey:key.length<=100) {l:List z9r} (hl:l.length<=8) {i:Nat} (hi:i<l.length) (hok:∀ a∈l.take i,OkA a) (ha:OkA (l.getD i znb))
 (k0:Tk->List Tk->List (List UInt8)->List (List UInt8)->Int->Option Bool) (k1:Bool->Option Bool) :
 z26 (k+100) key l (z7o (k+100) key (l.take i)) (dsH (k+100) (l.take i)) (zov (l.take i)) (zxo (l.take i)) (i:Int) k0 k1
  = k0 (z7o (k+100) key (l.take (i+1))) (dsH (k+100) (l.take (i+1))) (zov (l.take (i+1))) (zxo (l.take (i+1))) 0:=by
 have htk:l.take (i+1)=l.take i++[l.getD i znb]:=by
  rw[List.take_succ,List.getD_eq_getElem?_getD,List.getElem?_eq_getElem hi];rfl
 have hin:Go.Lift.inR (i:Int) (List.length l)=true:=z2b hi;have htg:=zsd k hk (key:=key) (by omega) hok;have hti:(l.take i).length<=8:=by rw[List.length_take];omega
 have hgt:=zuk k hk (key:=key) (by omega) hti hok;have hlen:(z7o (k+100) key (l.take i)).2.1.length<=8:=by
  show (z4v (k+100) (z4d (k+100) key idH) (l.take i)).length<=8;rw[zc6];exact hti
 have h1:=ha.1;have h2:=z7l (l.getD i znb).2.1;have h5:=ha.2.1;have hth:(thH (l.take i)).length<=(l.take i).length:=List.length_filter_le ..;have hdl:(dsH (k+100) (l.take i)).length=(thH (l.take i)).length:=by simp[dsH]
 have hown:(zov (l.take i)).length<=8:=by
  have:=List.length_filter_le (fun a:z9r=>!a.1) (l.take i);unfold zov;rw[List.length_map];omega
 have hoth:(zxo (l.take i)).length<=40:=by
  have key:∀ ys:List z9r,(∀ a∈ys,OkA a)->(ys.flatMap fun a=>a.2.2.1).length<=5*ys.length:=by
   intro ys
   induction ys with
   | nil=>intro _;simp
   | cons a ys ih =>
     intro h;have h1:=ih fun x hx=>h x (List.mem_cons_of_mem _ hx)
     have h2:=(h a List.mem_cons_self).2.1;simp only[List.flatMap_cons,List.length_append,List.length_cons];omega
  have:=key (thH (l.take i)) (fun a ha=>hok a (List.mem_filter.1 ha).1);unfold zxo;omega
 rw[htk,z11l];unfold z26;rw[show ((false,(([]:List UInt8),(([]:List (List UInt8)),()))):z9r)=znb from rfl];simp only[Int.toNat_natCast,hin,cond_true];cases hb:(l.getD i znb).1 with
 | false =>
   have hlk:zam (k+100) (z7o (k+100) key (l.take i)).2.2.1 (l.getD i znb)=((l.getD i znb).2.1,[],()):=by unfold zam;rw[if_neg (by rw[hb];simp)]
   rw[Bool.not_false,cond_true,z18d k (by omega) (by omega) (by omega) (by omega),Option.bind_some,zj (decide_eq_true (by omega)),hlk];simp only[dsH,thH,zov,zxo,List.filter_append,List.filter_cons,List.filter_nil,hb,Bool.not_false,Bool.not_true,if_true,Bool.false_eq_true,if_false,List.append_nil,List.map_append,List.map_cons,List.map_nil,List.flatMap_append,List.flatMap_cons,List.flatMap_nil]
 | true =>
   have hlk:zam (k+100) (z7o (k+100) key (l.take i)).2.2.1 (l.getD i znb)=(sH (k+100) (l.getD i znb),z7e (k+100) (z38 (k+100) (z7o (k+100) key (l.take i)).2.2.1) z12g (ckH (l.getD i znb).2.1),()):=by unfold zam;rw[if_pos hb]
   have hs:=zqg k hk ha;have e1:=z15f k hk ha;have e2:=z1gt k hk ha;have e3:=z1ba k (t:=z7o (k+100) key (l.take i)) (cid:=sH (k+100) (l.getD i znb)) (key:=ckH (l.getD i znb).2.1) (nonce:=z12g) hk (by omega) (by omega) (by omega) rfl (by omega);simp only[nbH,z1d6,z12g,ckH] at e1 e2 e3 hlk;rw[Bool.not_true,cond_false,zj (decide_eq_true (by omega)),e1,Option.bind_some,e2,Option.bind_some,z2z,z2y,z1a (by rfl)];simp only[bne_self_eq_false,cond_false];rw[e3,Option.bind_some,zj (decide_eq_true (by omega)),zj (decide_eq_true (by omega)),hlk];simp only[dsH,thH,zov,zxo,List.filter_append,List.filter_cons,List.filter_nil,hb,Bool.not_false,Bool.not_true,if_true,Bool.false_eq_true,if_false,List.append_nil,List.map_append,List.map_cons,List.map_nil,List.flatMap_append,List.flatMap_cons,List.flatMap_nil]
theorem zr5 (k:Nat) (hk:4400<=k) (hw:z15 (k+100)=some true) {key:List UInt8} {l:List z9r}:z1m (k+100) key l=some true:=by
 rw[z1m,z34,z33,hw];by_cases h1:100<key.length
 . rw[zj (decide_eq_true (by omega))];rfl
 rw[z1a (decide_eq_false (by omega))];by_cases h2:8<l.length
 . rw[zj (decide_eq_true (by omega))];rfl
 rw[z1a (decide_eq_false (by omega)),show z4j (k+100) key [105,100]=some (z4d (k+100) key idH) from zsr k (by omega) (by omega) (by decide),Option.bind_some,z4r];refine z4w (fun v=>∃ i:Nat,i<=l.length/\(∀ a∈l.take i,OkA a)/\v=(z7o (k+100) key (l.take i),dsH (k+100) (l.take i),zov (l.take i),zxo (l.take i),(i:Int))) (fun v=>l.length - v.2.2.2.2.toNat) (fun _=>some true) ?_ (k+100) _ ⟨0,by omega,by simp,rfl⟩ (by simp only;omega);rintro v r ⟨i,hi,hok,rfl⟩ hr;simp only;rw[z2x];by_cases hlt:i<l.length
 . rw[zj (decide_eq_true (by omega)),z32,z31,z30,hw,zj (z2b hlt)];rw[show ((false,(([]:List UInt8),(([]:List (List UInt8)),()))):z9r)=znb from rfl,Int.toNat_natCast];by_cases h3:300<(l.getD i znb).2.1.length
   . rw[zj (decide_eq_true (by omega))];rfl
   rw[z1a (decide_eq_false (by omega)),zj (z2b hlt),show z3a (k+100) (l.getD i znb).2.2.1 5 300=some (decide ((l.getD i znb).2.2.1.length<=5/\(l.getD i znb).2.2.1.flatten.length<=300)) from z11u (k+100) (many:=5) (most:=300) (by omega) (by omega) (by omega),Option.bind_some];by_cases h4:(l.getD i znb).2.2.1.length<=5/\(l.getD i znb).2.2.1.flatten.length<=300
   . rw[decide_eq_true h4,Bool.not_true,cond_false];have ha:OkA (l.getD i znb):=⟨by omega,h4.1,h4.2⟩
     rw[z1h5 k hk (by omega) (by omega) hlt hok ha,z1a (by rfl),z2v (by omega)];refine hr _ ⟨i+1,by omega,?_,rfl⟩ (by simp only;omega);intro a hm;have htk:l.take (i+1)=l.take i++[l.getD i znb]:=by
      rw[List.take_succ,List.getD_eq_getElem?_getD,List.getElem?_eq_getElem hlt];rfl
     rw[htk] at hm;rcases List.mem_append.1 hm with hm|hm
     . exact hok a hm
     . rw[List.mem_singleton.1 hm];exact ha
   . rw[decide_eq_false h4,Bool.not_false,cond_true];rfl
 . rw[z1a (decide_eq_false (by omega))];have e:i=l.length:=by omega
   subst e;rw[List.take_length] at hok ⊢;exact zy4 k hk hw (by omega) (by omega) hok _
end
end Go.Proofs.YtlhdohlpilippaaDoorLg
set_option linter.all false
set_option maxRecDepth 100000
namespace Go.Proofs.YtlhdohlpilippaaDoorLg
noncomputable section
open Go Go.Lift
theorem z14o (k:Nat):z15 (k+1100)=some true:=by kernel_rfl
end
end Go.Proofs.YtlhdohlpilippaaDoorLg
