import Derived.Test.YtlmlihfmoabinaaDoorLgP
set_option linter.all false
namespace Go.Lift
noncomputable section
section
variable {E:Env}
theorem zxj {α:Type}(k:Cmd α):∀ (st:List A) (fp:FP) (r:α×List A×FP),zp E k st fp=some r->fp.all=true->r.2.2.all=true:=by
 induction k with
 | ret a=>intro st fp r h hf;rw[z6d h];exact hf
 | fail=>intro st fp r h;exact (z6 h).elim
 | get t k ih=>intro st fp r h hf;exact ih _ st _ r h hf
 | set t x k ih =>
   intro st fp r h hf;simp only[zp,Cmd.cps] at h;cases hk:zfb E st t x<;>rw[hk] at h
   . simp at h
   . exact ih _ _ r h (by simp[hf])
 | cont t x k ih =>
   intro st fp r h hf;simp only[zp,Cmd.cps] at h;cases hk:Nat.blt t st.length<;>rw[hk] at h
   . simp at h
   . exact ih _ _ r h (by simp[hf])
 | retire t k ih=>intro st fp r h hf;exact ih _ _ r h (by simp[hf])
 | test b x y ihx ihy =>
   intro st fp r h hf;rcases z7m h with⟨_,h⟩|⟨_,h⟩
   . exact ihx st fp r h hf
   . exact ihy st fp r h hf
 | call f args k ih =>
   intro st fp r h hf;obtain⟨x,_,h⟩:=zeu h;exact ih _ _ st fp r h hf
 | guard d x y z ihx ihy ihz =>
   intro st fp r h hf;simp only[zp,Cmd.cps] at h;split at h
   . rename_i b _;cases b
     . exact ihy _ _ r h hf
     . exact ihx _ _ r h hf
   . exact ihz _ _ r h hf
   . cases h
theorem zy7 (x:A):zd8 x=x.refs:=by cases x<;>rfl
theorem zif {r:Nat}:∀ {st:List A},hasRef r st=false->∀ x∈st,r∉zd8 x
 | [],_,x,hx=>by cases hx
 | y :: l,h,x,hx=>by
   simp only[hasRef] at h;split at h
   . cases h
   . rename_i hy;rcases List.mem_cons.1 hx with rfl|hx
     . simpa using hy
     . exact zif h x hx
theorem z15i {st:List A}{t:Nat}(h:hasRef t st=false):st.map (ztg t)=st:=by
 apply List.ext_getElem?;intro i;rw[List.getElem?_map];cases hz:st[i]? with
 | none=>rfl
 | some z =>
   simp only[Option.map_some];congr 1;rcases zfj t z with⟨e,_⟩|⟨_,hc⟩
   . exact e
   . exact absurd (by rw[zy7];exact hc) (zif h z (List.mem_of_getElem? hz))
theorem z185 {st:List A}{t:Nat}{y:A}(h:hasRef t st=false):st.map (z130 t y)=st:=by
 apply List.ext_getElem?;intro i;rw[List.getElem?_map];cases hz:st[i]? with
 | none=>rfl
 | some z =>
   simp only[Option.map_some];congr 1;have hn:=zif h z (List.mem_of_getElem? hz);cases z<;>simp only[z130]<;>simp[zd8] at hn
   . rw[beq_false_of_ne (Ne.symm hn)];rfl
   . rw[beq_false_of_ne (Ne.symm hn)];rfl
   . rw[beq_false_of_ne (Ne.symm hn)];rfl
   . rw[show (List.contains _ t)=false by simpa using hn];rfl
   . rw[beq_false_of_ne (Ne.symm hn)];rfl
   . rw[beq_false_of_ne (Ne.symm hn)];rfl
theorem zr9 {st:List A}{t:Nat}{x:A}(h:ownRef st t=false):z9d st t x=st.set t x:=by
 unfold ownRef at h;split at h
 . unfold z9d;split<;>simp[z15i h]
 rename_i ho
 replace h:=ho
 unfold z54 at h;unfold z9d;split at h
 . cases h
 . cases h
 . cases h
 . cases h
 . cases h
 . cases h
 . rename_i h1 h2 h3 h4 h5 h6;split
   . rename_i t' xs hy;exact absurd hy (h1 _ _)
   . rename_i t' xs hy;exact absurd hy (h2 _ _)
   . rename_i t' xs hy;exact absurd hy (h3 _ _)
   . rename_i hy;exact absurd hy h4
   . rename_i t' xs hy;exact absurd hy (h5 _ _)
   . rename_i xs hy;exact absurd hy (h6 _)
   . rfl
theorem z3p {st st2:List A}{t:Nat}(h:st2[t]?=st[t]?):z54 st2 t=z54 st t:=by
 unfold z54;have:st2.getD t .dead=st.getD t .dead:=by simp[List.getD,h]
 rw[this]
theorem zvo {st st2:List A}{t:Nat}{x:A}(hl:st2.length=st.length)(h:∀ r∈zd8 x,st2[r]?=st[r]?):zfb E st2 t x=zfb E st t x:=by
 unfold zfb;rw[hl];have:z133 st2 t x=z133 st t x:=by
  cases x<;>simp only[z133,zd8,List.mem_singleton,List.not_mem_nil,false_implies,implies_true,forall_eq] at h ⊢
  . rw[z3p h]
  . rw[z3p h]
  . rw[z3p h]
  . rename_i f rs;have:∀ r∈rs,(z1j (!(Nat.beq r t)) (z54 st2 r))=(z1j (!(Nat.beq r t)) (z54 st r)):=fun r hr=>by rw[z3p (h r hr)]
    rw[Bool.eq_iff_iff,List.all_eq_true,List.all_eq_true];exact⟨fun g r hr=>by rw[<- this r hr];exact g r hr,fun g r hr=>by rw[this r hr];exact g r hr⟩
  . rw[z3p h]
  . rw[z3p h]
 rw[this]
theorem ze0 {st:List A}{t i:Nat}{x:A}(h:t<st.length):(st.set t x)[i]?=if i=t then some x else st[i]?:=by
 by_cases hi:i=t
 . subst hi;simp[h]
 . rw[if_neg hi,List.getElem?_set_ne (Ne.symm hi)]
def kL:Bool->A->List Nat
 | true,x=>z19d x
 | false,x=>zd8 x
theorem zvy {c:Bool}{u:Nat}{x:A}(h:u∈kL c x):u∈zd8 x:=by
 cases c
 . exact h
 . cases x<;>simp[kL,z19d] at h
   . simp[zd8,h]
   . simp[zd8,h]
   . simp[zd8,h]
def zaq (c:Bool)(u:Nat)(st:List A)(i:Nat):Prop:=∃ x,st[i]?=some x/\u∈kL c x
theorem z6b {u:Nat}:∀ {st:List A},hasRef u st=true ↔ ∃ i,zaq false u st i
 | []=>by simp[hasRef,zaq]
 | x :: l=>by
   have ih:=z6b (u:=u) (st:=l);have split:(∃ i,zaq false u (x::l) i) ↔ (u∈zd8 x\/∃ i,zaq false u l i):=by
    constructor
    . rintro⟨i,y,h,hy⟩;cases i with
      | zero=>simp at h;subst h;exact .inl hy
      | succ i=>exact .inr ⟨i,y,by simpa using h,hy⟩
    . rintro (h|⟨i,y,h,hy⟩)
      . exact⟨0,x,by simp,h⟩
      . exact⟨i+1,y,by simpa using h,hy⟩
   rw[split,<- ih];simp only[hasRef];cases hc:(zd8 x).contains u with
   | true=>simp at hc;simp[hc]
   | false=>simp at hc;simp[hc]
theorem zbe {u:Nat}:∀ {st:List A},hasCel u st=true ↔ ∃ i,zaq true u st i
 | []=>by simp[hasCel,zaq]
 | x :: l=>by
   have ih:=zbe (u:=u) (st:=l);have split:(∃ i,zaq true u (x::l) i) ↔ (u∈z19d x\/∃ i,zaq true u l i):=by
    constructor
    . rintro⟨i,y,h,hy⟩;cases i with
      | zero=>simp at h;subst h;exact .inl hy
      | succ i=>exact .inr ⟨i,y,by simpa using h,hy⟩
    . rintro (h|⟨i,y,h,hy⟩)
      . exact⟨0,x,by simp,h⟩
      . exact⟨i+1,y,by simpa using h,hy⟩
   rw[split,<- ih];cases x<;>simp only[hasCel,z19d,List.not_mem_nil,false_or,List.mem_singleton]
   case cel s n p =>
    cases hb:Nat.beq s u with
    | true=>simp[Nat.eq_of_beq_eq_true hb]
    | false =>
      have:¬ u=s:=by intro e;subst e;simp[Nat.beq_refl] at hb
      simp[this]
   case pel s n p v q =>
    cases hb:Nat.beq s u with
    | true=>simp[Nat.eq_of_beq_eq_true hb]
    | false =>
      have:¬ u=s:=by intro e;subst e;simp[Nat.beq_refl] at hb
      simp[this]
   case psl s n p v q lo hi =>
    cases hb:Nat.beq s u with
    | true=>simp[Nat.eq_of_beq_eq_true hb]
    | false =>
      have:¬ u=s:=by intro e;subst e;simp[Nat.beq_refl] at hb
      simp[this]
theorem zps {st:List A} {r:Nat} {x:A} (h:hasCel r st=false):z25 st r x=st.set r x:=by
 unfold z25;congr 1;apply List.ext_getElem?;intro i;rw[List.getElem?_map];cases hz:st[i]? with
 | none=>rfl
 | some z =>
   simp only[Option.map_some];congr 1;rcases zca r z with⟨e,_⟩|⟨_,hc,_⟩
   . exact e
   . exfalso;have:∃ i,zaq true r st i:=by
      cases z<;>simp[A.cell] at hc
      . subst hc;exact⟨i,_,hz,by simp[kL,z19d]⟩
      . subst hc;exact⟨i,_,hz,by simp[kL,z19d]⟩
      . subst hc;exact⟨i,_,hz,by simp[kL,z19d]⟩
     rw[zbe.2 this] at h;cases h
theorem z4h {st:List A}{c:Bool}{t u i:Nat}{x:A}(h:t<st.length):zaq c u (st.set t x) i ↔ if i=t then u∈kL c x else zaq c u st i:=by
 unfold zaq;rw[ze0 h];split
 . simp
 . rfl
theorem zox {st:List A}{c:Bool}{u t:Nat}(h:zaq c u st t):u∈zd8 (st.getD t .dead):=by
 obtain⟨x,h,hx⟩:=h;have:st.getD t .dead=x:=by simp[List.getD,h]
 rw[this];exact zvy hx
theorem zl6 {st:List A}{t:Nat}(h:hasRef t st=false):zgt st t=match z16u (st.getD t .dead) with
 | some y=>st.set t y
 | none=>st:=by
 unfold zgt;split<;>simp_all [z185 h]
theorem z14r {x y:A}(h:z16u x=some y):zd8 y=[]/\zd8 x=[]:=by
 cases x<;>simp[z16u] at h
 . subst h;exact⟨rfl,rfl⟩
 . split at h
   . cases h;exact⟨rfl,rfl⟩
   . cases h
 . unfold z14t at h;split at h
   . cases h;exact⟨rfl,rfl⟩
   . cases h
   . split at h
     . cases h;exact⟨rfl,rfl⟩
     . cases h
theorem frame {α:Type} (k:Cmd α):∀ (st:List A) (fp:FP) (r:α×List A×FP),zp E k st fp=some r->r.2.2.all=false →
 (∀ t∈fp.rd,t∈r.2.2.rd)/\(∀ t∈fp.wr,t∈r.2.2.wr)/\r.2.1.length=st.length/\(∀ t,t∉r.2.2.wr->r.2.1[t]?=st[t]?)/\(∀ t,t∉r.2.2.rd->∀ c i,zaq c t r.2.1 i ↔ zaq c t st i) ∧
 ∀ st2:List A,st2.length=st.length->(∀ t,t∈r.2.2.rd\/t∈fp.wr->st2[t]?=st[t]?)->(∀ t∈r.2.2.wr,∀ c i,zaq c t st2 i ↔ zaq c t st i) →
   ∃ st2',zp E k st2 fp=some (r.1,st2',r.2.2)/\st2'.length=st.length/\(∀ t∈r.2.2.wr,st2'[t]?=r.2.1[t]?)/\(∀ t,t∉r.2.2.wr->st2'[t]?=st2[t]?):=by
 induction k with
 | ret a =>
   intro st fp r h _;rw[z6d h];exact⟨fun _ h=>h,fun _ h=>h,rfl,fun _ _=>rfl,fun _ _ _ _=>.rfl,fun st2 hl hag _=>⟨st2,rfl,hl,fun t ht=>hag t (.inr ht),fun _ _=>rfl⟩⟩
 | fail=>intro st fp r h;exact (z6 h).elim
 | get t k ih =>
   intro st fp r h ha;obtain⟨h1,h2,h3,h4,h6,h5⟩:=ih _ st _ r h ha;refine⟨fun u hu=>h1 u (by simp[hu]),h2,h3,h4,h6,fun st2 hl hag hce=>?_⟩;obtain⟨st2',g1,g2,g3,g4⟩:=h5 st2 hl hag hce;refine⟨st2',?_,g2,g3,g4⟩;have:st2.getD t .dead=st.getD t .dead:=by
    have:=hag t (.inl (h1 t (by simp)));simp[List.getD,this]
   show zp E (k (st2.getD t .dead)) st2 _=_;rw[this];exact g1
 | set t x k ih =>
   intro st fp r h ha;simp only[zp,Cmd.cps] at h;cases hk:zfb E st t x<;>rw[hk] at h
   . simp at h
   simp only[cond] at h;obtain⟨hlt,_,_⟩:=z3s hk;have hown:ownRef st t=false:=by
    cases ho:ownRef st t with
    | false=>rfl
    | true =>
      have:=zxj k _ _ r h (by simp[ho]);rw[ha] at this;cases this
   rw[hown] at h;rw[zr9 hown] at h;obtain⟨h1,h2,h3,h4,h6,h5⟩:=ih (st.set t x) _ r h ha;have hr1:∀ u∈zd8 x,u∈r.2.2.rd:=fun u hu=>h1 u (List.mem_append.2 (.inl hu))
   have hr2:∀ u∈zd8 (st.getD t .dead),u∈r.2.2.rd:=fun u hu=>h1 u (List.mem_append.2 (.inr (List.mem_append.2 (.inl hu))))
   have hr3:t∈r.2.2.rd:=h1 t (List.mem_append.2 (.inr (List.mem_append.2 (.inr (by simp)))));have hr4:∀ u∈fp.rd,u∈r.2.2.rd:=fun u hu=>h1 u (List.mem_append.2 (.inr (List.mem_append.2 (.inr (by simp[hu])))))
   refine⟨hr4,fun u hu=>h2 u (by simp[hu]),by simpa using h3,fun u hu=>?_,fun u hu c i=>?_,fun st2 hl hag hce=>?_⟩
   . rw[h4 u hu,ze0 hlt,if_neg];intro e;subst e;exact hu (h2 _ (by simp))
   . rw[h6 u hu c i,z4h hlt];split
     . rename_i e;subst e;constructor
       . intro e;exact absurd (hr1 u (zvy e)) hu
       . intro hc;exact absurd (hr2 u (zox hc)) hu
     . rfl
   . have href:∀ s∈zd8 x,st2[s]?=st[s]?:=fun s hs=>hag s (.inl (hr1 s hs))
     have hlt2:t<st2.length:=by omega
     have hagt:st2[t]?=st[t]?:=hag t (.inl hr3);have hgd:st2.getD t .dead=st.getD t .dead:=by simp[List.getD,hagt]
     have htw:t∈r.2.2.wr:=h2 t (by simp);have ho2:ownRef st2 t=false:=by
      unfold ownRef at hown ⊢;rw[z3p hagt];cases ho:z54 st t with
      | false=>rfl
      | true =>
        rw[ho] at hown;dsimp only at hown ⊢;cases hr:hasRef t st2 with
        | false=>rfl
        | true =>
          obtain⟨i,hi⟩:=z6b.1 hr;rw[z6b.2 ⟨i,(hce t htw false i).1 hi⟩] at hown;cases hown
     obtain⟨st2',g1,g2,g3,g4⟩:=h5 (st2.set t x) (by simp[hl]) (fun u hu=>by
      rw[ze0 hlt2,ze0 hlt];by_cases e:u=t
      . rw[if_pos e,if_pos e]
      . rw[if_neg e,if_neg e];rcases hu with hu|hu
        . exact hag u (.inl hu)
        . rcases List.mem_cons.1 hu with hu|hu
          . exact absurd hu e
          . exact hag u (.inr hu)) (fun u hu c i=>by
      rw[z4h hlt2,z4h hlt];split
      . rfl
      . exact hce u hu c i)
     refine⟨st2',?_,by simpa using g2,g3,fun u hu=>?_⟩
     . simp only[zp,Cmd.cps];rw[zvo hl href,hk,zr9 ho2,ho2,hgd];exact g1
     . rw[g4 u hu,ze0 hlt2,if_neg];intro e;subst e;exact hu (h2 _ (by simp))
 | cont t x k ih =>
   intro st fp r h ha;simp only[zp,Cmd.cps] at h;cases hk:Nat.blt t st.length<;>rw[hk] at h
   . simp at h
   simp only[cond] at h;have hlt:t<st.length:=by simpa using hk
   have hnc:hasCel t st=false:=by
    cases ho:hasCel t st with
    | false=>rfl
    | true =>
      have:=zxj k _ _ r h (by simp[ho]);rw[ha] at this;cases this
   rw[zps hnc,hnc] at h;obtain⟨h1,h2,h3,h4,h6,h5⟩:=ih (st.set t x) _ r h ha;have hr1:∀ u∈zd8 x,u∈r.2.2.rd:=fun u hu=>h1 u (List.mem_append.2 (.inl hu))
   have hr2:∀ u∈zd8 (st.getD t .dead),u∈r.2.2.rd:=fun u hu=>h1 u (List.mem_append.2 (.inr (List.mem_append.2 (.inl hu))))
   have hr3:t∈r.2.2.rd:=h1 t (List.mem_append.2 (.inr (List.mem_append.2 (.inr (by simp)))));have hr4:∀ u∈fp.rd,u∈r.2.2.rd:=fun u hu=>h1 u (List.mem_append.2 (.inr (List.mem_append.2 (.inr (by simp[hu])))))
   refine⟨hr4,fun u hu=>h2 u (by simp[hu]),by simpa using h3,fun u hu=>?_,fun u hu c i=>?_,fun st2 hl hag hce=>?_⟩
   . rw[h4 u hu,ze0 hlt,if_neg];intro e;subst e;exact hu (h2 _ (by simp))
   . rw[h6 u hu c i,z4h hlt];split
     . rename_i e;subst e;constructor
       . intro e;exact absurd (hr1 u (zvy e)) hu
       . intro hc;exact absurd (hr2 u (zox hc)) hu
     . rfl
   . have hlt2:t<st2.length:=by omega
     have htw:t∈r.2.2.wr:=h2 t (by simp);have hnc2:hasCel t st2=false:=by
      cases ho:hasCel t st2 with
      | false=>rfl
      | true =>
        obtain⟨i,hi⟩:=zbe.1 ho;rw[zbe.2 ⟨i,(hce t htw true i).1 hi⟩] at hnc;cases hnc
     have hagt:st2[t]?=st[t]?:=hag t (.inl hr3);have hgd:st2.getD t .dead=st.getD t .dead:=by simp[List.getD,hagt]
     obtain⟨st2',g1,g2,g3,g4⟩:=h5 (st2.set t x) (by simp[hl]) (fun u hu=>by
      rw[ze0 hlt2,ze0 hlt];by_cases e:u=t
      . rw[if_pos e,if_pos e]
      . rw[if_neg e,if_neg e];rcases hu with hu|hu
        . exact hag u (.inl hu)
        . rcases List.mem_cons.1 hu with hu|hu
          . exact absurd hu e
          . exact hag u (.inr hu)) (fun u hu c i=>by
      rw[z4h hlt2,z4h hlt];split
      . rfl
      . exact hce u hu c i)
     refine⟨st2',?_,by simpa using g2,g3,fun u hu=>?_⟩
     . simp only[zp,Cmd.cps];rw[hl,hk,zps hnc2,hnc2,hgd];exact g1
     . rw[g4 u hu,ze0 hlt2,if_neg];intro e;subst e;exact hu (h2 _ (by simp))
 | retire t k ih =>
   intro st fp r h ha;simp only[zp,Cmd.cps] at h;have hnr:hasRef t st=false:=by
    cases ho:hasRef t st with
    | false=>rfl
    | true =>
      have:=zxj k _ _ r h (by simp[ho]);rw[ha] at this;cases this
   rw[hnr,zl6 hnr] at h;cases hv:z16u (st.getD t .dead) with
   | none =>
     rw[hv] at h;obtain⟨h1,h2,h3,h4,h6,h5⟩:=ih st _ r h ha;have hr3:t∈r.2.2.rd:=h1 t (by simp);refine⟨fun u hu=>h1 u (by simp[hu]),fun u hu=>h2 u (by simp[hu]),h3,h4,h6,fun st2 hl hag hce=>?_⟩;have htw:t∈r.2.2.wr:=h2 t (by simp);have hnr2:hasRef t st2=false:=by
      cases ho:hasRef t st2 with
      | false=>rfl
      | true =>
        obtain⟨i,hi⟩:=z6b.1 ho;rw[z6b.2 ⟨i,(hce t htw false i).1 hi⟩] at hnr;cases hnr
     have hagt:st2[t]?=st[t]?:=hag t (.inl hr3);have hgd:st2.getD t .dead=st.getD t .dead:=by simp[List.getD,hagt]
     obtain⟨st2',g1,g2,g3,g4⟩:=h5 st2 hl (fun u hu=>by
      rcases hu with hu|hu
      . exact hag u (.inl hu)
      . rcases List.mem_cons.1 hu with rfl|hu
        . exact hagt
        . exact hag u (.inr hu)) hce
     refine⟨st2',?_,g2,g3,g4⟩;simp only[zp,Cmd.cps];rw[hnr2,zl6 hnr2,hgd,hv];exact g1
   | some y =>
     rw[hv] at h;dsimp only at h;obtain⟨hy1,hy2⟩:=z14r hv;have hlt:t<st.length:=by
      rcases Nat.lt_or_ge t st.length with h'|h'
      . exact h'
      . rw[List.getD_eq_getElem?_getD,List.getElem?_eq_none h'] at hv;simp[z16u] at hv
     obtain⟨h1,h2,h3,h4,h6,h5⟩:=ih (st.set t y) _ r h ha;have hr3:t∈r.2.2.rd:=h1 t (by simp);refine⟨fun u hu=>h1 u (by simp[hu]),fun u hu=>h2 u (by simp[hu]),by simpa using h3,fun u hu=>?_,fun u hu c i=>?_,fun st2 hl hag hce=>?_⟩
     . rw[h4 u hu,ze0 hlt,if_neg];intro e;subst e;exact hu (h2 _ (by simp))
     . rw[h6 u hu c i,z4h hlt];split
       . rename_i e;subst e;constructor
         . intro e;have:=zvy e;rw[hy1] at this;cases this
         . intro hc;have:=zox hc;rw[hy2] at this;cases this
       . rfl
     . have hlt2:t<st2.length:=by omega
       have htw:t∈r.2.2.wr:=h2 t (by simp);have hnr2:hasRef t st2=false:=by
        cases ho:hasRef t st2 with
        | false=>rfl
        | true =>
          obtain⟨i,hi⟩:=z6b.1 ho;rw[z6b.2 ⟨i,(hce t htw false i).1 hi⟩] at hnr;cases hnr
       have hagt:st2[t]?=st[t]?:=hag t (.inl hr3);have hgd:st2.getD t .dead=st.getD t .dead:=by simp[List.getD,hagt]
       obtain⟨st2',g1,g2,g3,g4⟩:=h5 (st2.set t y) (by simp[hl]) (fun u hu=>by
        rw[ze0 hlt2,ze0 hlt];by_cases e:u=t
        . rw[if_pos e,if_pos e]
        . rw[if_neg e,if_neg e];rcases hu with hu|hu
          . exact hag u (.inl hu)
          . rcases List.mem_cons.1 hu with hu|hu
            . exact absurd hu e
            . exact hag u (.inr hu)) (fun u hu c i=>by
        rw[z4h hlt2,z4h hlt];split
        . rfl
        . exact hce u hu c i)
       refine⟨st2',?_,by simpa using g2,g3,fun u hu=>?_⟩
       . simp only[zp,Cmd.cps];rw[hnr2,zl6 hnr2,hgd,hv];exact g1
       . rw[g4 u hu,ze0 hlt2,if_neg];intro e;subst e;exact hu (h2 _ (by simp))
 | test b x y ihx ihy =>
   intro st fp r h ha;cases b with
   | true=>exact ihx st fp r h ha
   | false=>exact ihy st fp r h ha
 | call f args k ih =>
   intro st fp r h ha;obtain⟨x,hv,h⟩:=zeu h;obtain⟨h1,h2,h3,h4,h6,h5⟩:=ih _ _ st fp r h ha;refine⟨h1,h2,h3,h4,h6,fun st2 hl hag hce=>?_⟩;obtain⟨st2',g1,g2,g3,g4⟩:=h5 st2 hl hag hce;refine⟨st2',?_,g2,g3,g4⟩;simp only[zp,Cmd.cps,hv,Option.bind_some];exact g1
 | guard d x y z ihx ihy ihz =>
   intro st fp r h ha;simp only[zp,Cmd.cps] at h;have key:∀ (k:Cmd α) (ih:∀ (st:List A) (fp:FP) (r:α×List A×FP),zp E k st fp=some r->r.2.2.all=false →
    (∀ t∈fp.rd,t∈r.2.2.rd)/\(∀ t∈fp.wr,t∈r.2.2.wr)/\r.2.1.length=st.length/\(∀ t,t∉r.2.2.wr->r.2.1[t]?=st[t]?)/\(∀ t,t∉r.2.2.rd->∀ c i,zaq c t r.2.1 i ↔ zaq c t st i) ∧
    ∀ st2:List A,st2.length=st.length->(∀ t,t∈r.2.2.rd\/t∈fp.wr->st2[t]?=st[t]?)->(∀ t∈r.2.2.wr,∀ c i,zaq c t st2 i ↔ zaq c t st i) →
      ∃ st2',zp E k st2 fp=some (r.1,st2',r.2.2)/\st2'.length=st.length/\(∀ t∈r.2.2.wr,st2'[t]?=r.2.1[t]?)/\(∀ t,t∉r.2.2.wr->st2'[t]?=st2[t]?)),
    zp E k st { fp with rd:=d::fp.rd }=some r->(∀ st2:List A,st2.getD d .dead=st.getD d .dead->zp E (.guard d x y z) st2 fp=zp E k st2 { fp with rd:=d::fp.rd }) →
    (∀ t∈fp.rd,t∈r.2.2.rd)/\(∀ t∈fp.wr,t∈r.2.2.wr)/\r.2.1.length=st.length/\(∀ t,t∉r.2.2.wr->r.2.1[t]?=st[t]?)/\(∀ t,t∉r.2.2.rd->∀ c i,zaq c t r.2.1 i ↔ zaq c t st i) ∧
    ∀ st2:List A,st2.length=st.length->(∀ t,t∈r.2.2.rd\/t∈fp.wr->st2[t]?=st[t]?)->(∀ t∈r.2.2.wr,∀ c i,zaq c t st2 i ↔ zaq c t st i) →
      ∃ st2',zp E (.guard d x y z) st2 fp=some (r.1,st2',r.2.2)/\st2'.length=st.length/\(∀ t∈r.2.2.wr,st2'[t]?=r.2.1[t]?)/\(∀ t,t∉r.2.2.wr->st2'[t]?=st2[t]?):=by
    intro k ih hk hsame;obtain⟨h1,h2,h3,h4,h6,h5⟩:=ih st _ r hk ha;refine⟨fun u hu=>h1 u (by simp[hu]),h2,h3,h4,h6,fun st2 hl hag hce=>?_⟩;obtain⟨st2',g1,g2,g3,g4⟩:=h5 st2 hl hag hce;refine⟨st2',?_,g2,g3,g4⟩;have:st2.getD d .dead=st.getD d .dead:=by
     have:=hag d (.inl (h1 d (by simp)));simp[List.getD,this]
    rw[hsame st2 this];exact g1
   split at h
   . rename_i b hb;cases b
     . simp only[cond] at h;rw[zey hb (by simp)] at h;refine key y ihy h fun st2 hst=>?_
       rw[hb] at hst;simp only[zp,Cmd.cps,hst,cond,zey hst (by simp)]
     . simp only[cond] at h;rw[zey hb (by simp)] at h;refine key x ihx h fun st2 hst=>?_
       rw[hb] at hst;simp only[zp,Cmd.cps,hst,cond,zey hst (by simp)]
   . rename_i hb;refine key z ihz h fun st2 hst=>?_
     rw[hb] at hst;simp only[zp,Cmd.cps,hst]
   . cases h
theorem zff:∀ {l m:List Nat},meets l m=false->∀ t∈l,t∉m
 | [],_,_,t,ht=>by cases ht
 | x :: l,m,h,t,ht=>by
   simp only[meets] at h;split at h
   . cases h
   . rename_i hx;rcases List.mem_cons.1 ht with rfl|ht
     . simpa using hx
     . exact zff h t ht
theorem zvd {f g:FP}(h:znb f g=false):f.all=false/\g.all=false/\(∀ t∈f.wr,t∉g.rd)/\(∀ t∈f.wr,t∉g.wr)/\(∀ t∈g.wr,t∉f.rd):=by
 simp only[znb,Bool.or_eq_false_iff] at h;exact⟨h.1,h.2.1,zff h.2.2.1,zff h.2.2.2.1,zff h.2.2.2.2⟩
theorem z1az {α:Type}{k1 k2:Cmd α}{x1 x2:α}{st st1 st2:List A}{f1 f2:FP}(h1:zp E k1 st fp0=some (x1,st1,f1))(h2:zp E k2 st1 fp0=some (x2,st2,f2))(hc:znb f1 f2=false) :
 ∃ st1',zp E k2 st fp0=some (x2,st1',f2)/\zp E k1 st1' fp0=some (x1,st2,f1):=by
 obtain⟨a1,a2,c1,c2,c3⟩:=zvd hc;obtain⟨_,_,l1,s1,q1,fr1⟩:=frame k1 st fp0 _ h1 a1;obtain⟨_,_,l2,s2,q2,fr2⟩:=frame k2 st1 fp0 _ h2 a2;dsimp only at l1 s1 q1 fr1 l2 s2 q2 fr2;obtain⟨st1',g1,g2,g3,g4⟩:=fr2 st l1.symm (fun t ht=>by
  rcases ht with ht|ht
  . exact (s1 t (fun hw=>c1 t hw ht)).symm
  . cases ht) (fun t ht c i=>(q1 t (c3 t ht) c i).symm)
 obtain⟨_,_,_,_,q3,_⟩:=frame k2 st fp0 _ g1 a2;dsimp only at q3;obtain⟨st2',k1',k2',k3,k4⟩:=fr1 st1' (by omega) (fun t ht=>by
  rcases ht with ht|ht
  . exact g4 t (fun hw=>c3 t hw ht)
  . cases ht) (fun t ht c i=>q3 t (c1 t ht) c i)
 refine⟨st1',g1,?_⟩;have:st2'=st2:=by
  apply List.ext_getElem?;intro t;by_cases ht1:t∈f1.wr
  . rw[k3 t ht1,s2 t (c2 t ht1)]
  . rw[k4 t ht1];by_cases ht2:t∈f2.wr
    . exact g3 t ht2
    . rw[g4 t ht2,s2 t ht2,s1 t ht1]
 rw[this] at k1';exact k1'
inductive RunI (E:Env) (all:Array Oper) (fps:List FP):List Nat->List A->List A->Prop
 | nil {st:List A}:RunI E all fps [] st st
 | cons {i:Nat} {o:Oper} {l:List Nat} {st st1 st2:List A} (ho:all[i]?=some o) (h:zp E (z6c E all o) st fp0=some ((),st1,fps.getD i fp0)) (hr:RunI E all fps l st1 st2):RunI E all fps (i::l) st st2
theorem zy2 {all:Array Oper}:∀ {l:List Oper} {fs:List FP} {st st':List A} (k:Nat) (fps:List FP),Run E all l fs st st'->(∀ j,l[j]?=all[k+j]?)->(∀ j f,fs[j]?=some f->fps.getD (k+j) fp0=f) →
 RunI E all fps (List.range' k l.length) st st'
 | [],_,_,_,k,fps,.nil,_,_=>.nil
 | o::l,f::fs,st,st',k,fps,.cons h hr,hl,hf=>by
   rw[List.length_cons,List.range'_succ];have h0:fps.getD k fp0=f:=by simpa using hf 0 f rfl
   refine .cons (by simpa using (hl 0).symm) (by rw[h0];exact h) (zy2 (k+1) fps hr (fun j=>?_) (fun j g hj=>?_))
   . have:=hl (j+1);simpa[Nat.add_assoc,Nat.add_comm 1 j] using this
   . have:=hf (j+1) g (by simpa using hj);simpa[Nat.add_assoc,Nat.add_comm 1 j] using this
theorem zcd {α:Type}(k:Cmd α):∀ (st:List A) (fp:FP) (r:α×List A×FP),zp E k st fp=some r->(∀ u∈fp.rd,u∈r.2.2.rd)/\(∀ u∈fp.wr,u∈r.2.2.wr)/\(∀ u∈fp.ow,u∈r.2.2.ow):=by
 induction k with
 | ret a=>intro st fp r h;rw[z6d h];exact⟨fun _ h=>h,fun _ h=>h,fun _ h=>h⟩
 | fail=>intro st fp r h;exact (z6 h).elim
 | get t k ih =>
   intro st fp r h;obtain⟨h1,h2,h3⟩:=ih _ st _ r h;exact⟨fun u hu=>h1 u (by simp[hu]),h2,h3⟩
 | set t x k ih =>
   intro st fp r h;simp only[zp,Cmd.cps] at h;cases hk:zfb E st t x<;>rw[hk] at h
   . simp at h
   obtain⟨h1,h2,h3⟩:=ih _ _ r h;exact⟨fun u hu=>h1 u (List.mem_append.2 (.inr (List.mem_append.2 (.inr (by simp[hu]))))),fun u hu=>h2 u (by simp[hu]),fun u hu=>h3 u (by simp[hu])⟩
 | cont t x k ih =>
   intro st fp r h;simp only[zp,Cmd.cps] at h;cases hk:Nat.blt t st.length<;>rw[hk] at h
   . simp at h
   obtain⟨h1,h2,h3⟩:=ih _ _ r h;exact⟨fun u hu=>h1 u (List.mem_append.2 (.inr (List.mem_append.2 (.inr (by simp[hu]))))),fun u hu=>h2 u (by simp[hu]),fun u hu=>h3 u (by cases x.own<;>simp[hu])⟩
 | retire t k ih =>
   intro st fp r h;obtain⟨h1,h2,h3⟩:=ih _ _ r h;exact⟨fun u hu=>h1 u (by simp[hu]),fun u hu=>h2 u (by simp[hu]),fun u hu=>h3 u (by simp[hu])⟩
 | test b x y ihx ihy =>
   intro st fp r h;rcases z7m h with⟨_,h⟩|⟨_,h⟩
   . exact ihx st fp r h
   . exact ihy st fp r h
 | call f args k ih =>
   intro st fp r h;obtain⟨x,_,h⟩:=zeu h;exact ih _ _ st fp r h
 | guard d x y z ihx ihy ihz =>
   intro st fp r h;simp only[zp,Cmd.cps] at h;split at h
   . rename_i b _;cases b
     . obtain⟨h1,h2,h3⟩:=ihy _ _ r h;exact⟨fun u hu=>h1 u (by simp[hu]),h2,h3⟩
     . obtain⟨h1,h2,h3⟩:=ihx _ _ r h;exact⟨fun u hu=>h1 u (by simp[hu]),h2,h3⟩
   . obtain⟨h1,h2,h3⟩:=ihz _ _ r h;exact⟨fun u hu=>h1 u (by simp[hu]),h2,h3⟩
   . cases h
theorem zxe {α:Type}{u:Nat}{x y z:Cmd α}{st:List A}{fp:FP}{r:α×List A×FP}(h:zp E (.guard u x y z) st fp=some r):u∈r.2.2.rd:=by
 simp only[zp,Cmd.cps] at h;split at h
 . rename_i b _;cases b
   . exact (zcd _ _ _ r h).1 u (by simp)
   . exact (zcd _ _ _ r h).1 u (by simp)
 . exact (zcd _ _ _ r h).1 u (by simp)
 . cases h
theorem zth {st:List A}{d t u:Nat}{y:A}(hd:d<st.length)(hy0:st[d]?=some y)(hy:zd8 y=[])(hu:u≠t):hasRef u (st.set d (.bor t))=hasRef u st:=by
 rw[Bool.eq_iff_iff,z6b,z6b];constructor
 . rintro⟨i,h⟩;rw[z4h hd] at h;split at h
   . simp[kL,zd8] at h;exact absurd h hu
   . exact⟨i,h⟩
 . rintro⟨i,h⟩;refine⟨i,(z4h hd).2 ?_⟩;split
   . rename_i e;subst e;obtain⟨z,h1,h2⟩:=h;rw[hy0] at h1;cases h1;have:=zvy h2;rw[hy] at this;cases this
   . exact h
theorem z10k {st:List A}{d t u:Nat}{y:A}(hd:d<st.length)(hy0:st[d]?=some y)(hy:zd8 y=[]):hasCel u (st.set d (.bor t))=hasCel u st:=by
 rw[Bool.eq_iff_iff,zbe,zbe];constructor
 . rintro⟨i,h⟩;rw[z4h hd] at h;split at h
   . simp[kL,z19d] at h
   . exact⟨i,h⟩
 . rintro⟨i,h⟩;refine⟨i,(z4h hd).2 ?_⟩;split
   . rename_i e;subst e;obtain⟨z,h1,h2⟩:=h;rw[hy0] at h1;cases h1;have:=zvy h2;rw[hy] at this;cases this
   . exact h
theorem zes {st:List A}{d u:Nat}{x:A}(h:u≠d):(st.set d x).getD u .dead=st.getD u .dead:=by
 rw[List.getD_eq_getElem?_getD,List.getD_eq_getElem?_getD,List.getElem?_set_ne (Ne.symm h)]
theorem z101 {st:List A}{d t u:Nat}{y:A}(hd:d<st.length)(hy0:st[d]?=some y)(hy:zd8 y=[])(hu:u≠t)(hud:u≠d):ownRef (st.set d (.bor t)) u=ownRef st u:=by
 unfold ownRef;rw[z3p (List.getElem?_set_ne (Ne.symm hud)),zth hd hy0 hy hu]
theorem zhf {st:List A}{t:Nat}:z54 st t=(st.getD t .dead).own:=by
 unfold z54;cases st.getD t .dead<;>rfl
theorem z17y {x:A}(h:x.own=true):x.refs=[]:=by cases x<;>simp_all [A.own,A.refs]
theorem z15q {u:Nat}{x:A}(h:x.own=true):ztg u x=x:=by
 rcases zfj u x with⟨e,_⟩|⟨_,hc⟩
 . exact e
 . rw[z17y h] at hc;cases hc
theorem z13h {u:Nat}{x:A}(h:x.own=true):zon u x=x:=by
 cases x<;>simp_all [A.own,zon]
theorem z17r {u:Nat}{y x:A}(h:x.own=true):z130 u y x=x:=by
 cases x<;>simp_all [A.own,z130]
theorem z13j {u:Nat}{x:A}(h:zd8 x=[]):ztg u x=x:=by
 rcases zfj u x with⟨e,_⟩|⟨_,hc⟩
 . exact e
 . rw[<- zy7,h] at hc;cases hc
theorem z13i {u:Nat}{x:A}(h:zd8 x=[]):zon u x=x:=by
 cases x<;>simp_all [zd8,zon]
theorem z14u {u:Nat}{y x:A}(h:zd8 x=[]):z130 u y x=x:=by
 cases x<;>simp_all [zd8,z130]
theorem zx6 (f:A->A){st:List A}{d t:Nat}{y:A}(hd:d<st.length)(hy0:st[d]?=some y)(hfy:f y=y)(hft:f (.bor t)=.bor t)(htd:t≠d)(ho:z54 st t=true)(hfo:∀ x:A,x.own=true->f x=x) :
 (st.set d (.bor t)).map f=(st.map f).set d (.bor t)/\(st.map f)[d]?=some y/\z54 (st.map f) t=true:=by
 refine⟨by rw[List.map_set,hft],by rw[List.getElem?_map,hy0,Option.map_some,hfy],?_⟩;rw[zhf] at ho ⊢;have h1:(st.map f).getD t .dead=st.getD t .dead:=by
  rw[List.getD_eq_getElem?_getD,List.getD_eq_getElem?_getD,List.getElem?_map];rw[List.getD_eq_getElem?_getD] at ho;cases hz:st[t]? with
  | none=>rw[hz] at ho;cases ho
  | some z =>
    rw[hz] at ho;simp only[Option.map_some,Option.getD_some] at ho ⊢;exact hfo z ho
 rw[h1];exact ho
theorem z15r {u t:Nat}(h:u≠t):ztg u (.bor t)=.bor t:=by
 simp only[ztg];rw[beq_false_of_ne (Ne.symm h)];rfl
theorem z17s {u t:Nat}{y:A}(h:u≠t):z130 u y (.bor t)=.bor t:=by
 simp only[z130];rw[beq_false_of_ne (Ne.symm h)];rfl
theorem z12y {st:List A}{d t u:Nat}{x y:A}(hd:d<st.length)(hy0:st[d]?=some y)(hy:zd8 y=[])(htd:t≠d)(ho:z54 st t=true)(hu:u≠t)(hud:u≠d) :
 z9d (st.set d (.bor t)) u x=(z9d st u x).set d (.bor t)/\(z9d st u x)[d]?=some y/\z54 (z9d st u x) t=true:=by
 obtain⟨m1,m2,m3⟩:=zx6 (ztg u) hd hy0 (z13j hy) (z15r hu) htd ho (fun _ h=>z15q h);unfold z9d;rw[zes hud];split
 all_goals
  refine⟨?_,?_,?_⟩
  first
   | rw[m1,List.set_comm _ _ (Ne.symm hud)]
   | rw[List.set_comm _ _ (Ne.symm hud)]
  first
   | (rw[List.getElem?_set_ne hud];exact m2)
   | (rw[List.getElem?_set_ne hud];exact hy0)
  first
   | (rw[z3p (List.getElem?_set_ne hu)];exact m3)
   | (rw[z3p (List.getElem?_set_ne hu)];exact ho)
theorem z10s {st:List A}{d t u:Nat}{x y:A}(hd:d<st.length)(hy0:st[d]?=some y)(hy:zd8 y=[])(htd:t≠d)(ho:z54 st t=true)(hu:u=t->x.own=true)(hul:u<st.length)(hud:u≠d) :
 z25 (st.set d (.bor t)) u x=(z25 st u x).set d (.bor t)/\(z25 st u x)[d]?=some y/\z54 (z25 st u x) t=true:=by
 obtain⟨m1,m2,m3⟩:=zx6 (zon u) hd hy0 (z13i hy) rfl htd ho (fun _ h=>z13h h);unfold z25;refine⟨by rw[m1,List.set_comm _ _ (Ne.symm hud)],by rw[List.getElem?_set_ne hud];exact m2,?_⟩;by_cases e:u=t
 . subst e;rw[zhf,List.getD_eq_getElem?_getD,List.getElem?_set_self (by simpa using hul)];exact hu rfl
 . rw[z3p (List.getElem?_set_ne e)];exact m3
theorem z12z {st:List A}{d t u:Nat}{y:A}(hd:d<st.length)(hy0:st[d]?=some y)(hy:zd8 y=[])(htd:t≠d)(ho:z54 st t=true)(hu:u≠t)(hud:u≠d) :
 zgt (st.set d (.bor t)) u=(zgt st u).set d (.bor t)/\(zgt st u)[d]?=some y/\z54 (zgt st u) t=true:=by
 unfold zgt;rw[zes hud];split
 . rename_i z _;obtain⟨m1,m2,m3⟩:=zx6 (z130 u z) hd hy0 (z14u hy) (z17s hu) htd ho (fun _ h=>z17r h);exact⟨by rw[m1,List.set_comm _ _ (Ne.symm hud)],by rw[List.getElem?_set_ne hud];exact m2,by rw[z3p (List.getElem?_set_ne hu)];exact m3⟩
 . exact⟨rfl,hy0,ho⟩
theorem slip {α:Type} {d t:Nat} {y:A} (hy:zd8 y=[]) (htd:t≠d) (k:Cmd α):∀ (st:List A) (fp:FP) (r:α×List A×FP),zp E k (st.set d (.bor t)) fp=some r->d<st.length->st[d]?=some y->z54 st t=true →
 d∉r.2.2.rd->d∉r.2.2.wr->t∉r.2.2.ow->∃ st2,zp E k st fp=some (r.1,st2,r.2.2)/\r.2.1=st2.set d (.bor t)/\st2[d]?=some y/\z54 st2 t=true/\st2.length=st.length:=by
 induction k with
 | ret a =>
   intro st fp r h hd hy0 ho _ _ _;rw[z6d h];exact⟨st,rfl,rfl,hy0,ho,rfl⟩
 | fail=>intro st fp r h;exact (z6 h).elim
 | get u k ih =>
   intro st fp r h hd hy0 ho h1 h2 h3;have hmem:u∈r.2.2.rd:=(zcd (k _) _ { fp with rd:=u::fp.rd } r h).1 u (by simp);have hud:u≠d:=fun e=>h1 (e ▸ hmem)
   have hg:(st.set d (.bor t)).getD u .dead=st.getD u .dead:=zes hud;have h':zp E (k (st.getD u .dead)) (st.set d (.bor t)) { fp with rd:=u::fp.rd }=some r:=by rw[<- hg];exact h
   exact ih _ st _ r h' hd hy0 ho h1 h2 h3
 | set u x k ih =>
   intro st fp r h hd hy0 ho h1 h2 h3;simp only[zp,Cmd.cps] at h;cases hk:zfb E (st.set d (.bor t)) u x<;>rw[hk] at h
   . simp at h
   simp only[cond] at h;obtain⟨m1,m2,m3⟩:=zcd k _ _ r h;have hud:u≠d:=fun e=>h2 (by subst e;exact m2 _ (by simp))
   have hut:u≠t:=fun e=>h3 (by subst e;exact m3 _ (by simp))
   have hxr:∀ s∈zd8 x,s≠d:=fun s hs e=>h1 (by subst e;exact m1 _ (List.mem_append.2 (.inl hs)))
   obtain⟨e1,e2,e3⟩:=z12y (x:=x) hd hy0 hy htd ho hut hud;have hk':zfb E st u x=true:=by
    rw[<- hk];exact (zvo (by simp) (fun s hs=>List.getElem?_set_ne (Ne.symm (hxr s hs)))).symm
   rw[e1,z101 hd hy0 hy hut hud,zes hud] at h;obtain⟨st2,g1,g2,g3,g4,g5⟩:=ih _ _ r h (by rw[z2i];exact hd) e2 e3 h1 h2 h3;refine⟨st2,?_,g2,g3,g4,by rw[g5,z2i]⟩;simp only[zp,Cmd.cps];rw[hk'];exact g1
 | cont u x k ih =>
   intro st fp r h hd hy0 ho h1 h2 h3;simp only[zp,Cmd.cps] at h;cases hk:Nat.blt u (st.set d (.bor t)).length<;>rw[hk] at h
   . simp at h
   simp only[cond] at h;obtain⟨m1,m2,m3⟩:=zcd k _ _ r h;have hud:u≠d:=fun e=>h2 (by subst e;exact m2 _ (by simp))
   have hut:u=t->x.own=true:=by
    intro e;cases hx:x.own with
    | true=>rfl
    | false=>exact absurd (m3 t (by rw[hx,e];simp)) h3
   have hul:u<st.length:=by simpa using hk
   obtain⟨e1,e2,e3⟩:=z10s (x:=x) hd hy0 hy htd ho hut hul hud;rw[e1,z10k hd hy0 hy,zes hud] at h;obtain⟨st2,g1,g2,g3,g4,g5⟩:=ih _ _ r h (by simpa[z25] using hd) e2 e3 h1 h2 h3;refine⟨st2,?_,g2,g3,g4,by rw[g5];simp[z25]⟩;simp only[zp,Cmd.cps];rw[show Nat.blt u st.length=true by simpa using hul];exact g1
 | retire u k ih =>
   intro st fp r h hd hy0 ho h1 h2 h3;simp only[zp,Cmd.cps] at h;obtain⟨m1,m2,m3⟩:=zcd k _ _ r h;have hud:u≠d:=fun e=>h2 (by subst e;exact m2 _ (by simp))
   have hut:u≠t:=fun e=>h3 (by subst e;exact m3 _ (by simp))
   obtain⟨e1,e2,e3⟩:=z12z hd hy0 hy htd ho hut hud;rw[e1,zth hd hy0 hy hut] at h;obtain⟨st2,g1,g2,g3,g4,g5⟩:=ih _ _ r h (by rw[z5h];exact hd) e2 e3 h1 h2 h3;exact⟨st2,g1,g2,g3,g4,by rw[g5,z5h]⟩
 | test b x y' ihx ihy =>
   intro st fp r h;cases b with
   | true=>exact ihx st fp r h
   | false=>exact ihy st fp r h
 | call f args k ih =>
   intro st fp r h hd hy0 ho h1 h2 h3;obtain⟨x,hv,h⟩:=zeu h;obtain⟨st2,g1,g⟩:=ih _ _ st fp r h hd hy0 ho h1 h2 h3;refine⟨st2,?_,g⟩;simp only[zp,Cmd.cps,hv,Option.bind_some];exact g1
 | guard u x y' z ihx ihy ihz =>
   intro st fp r h hd hy0 ho h1 h2 h3;have hud:u≠d:=fun e=>h1 (by subst e;exact (zxe h))
   simp only[zp,Cmd.cps] at h ⊢;rw[zes hud] at h;split at h
   . rename_i b hb;have hut:u≠t:=by
      intro e;subst e;rw[zhf,hb] at ho;cases ho
     have key:∀ v:A,(st.set d (.bor t)).set u v=(st.set u v).set d (.bor t):=fun v=>List.set_comm _ _ (Ne.symm hud)
     have k1:∀ v:A,(st.set u v)[d]?=some y:=fun v=>by rw[List.getElem?_set_ne hud];exact hy0
     have k2:∀ v:A,z54 (st.set u v) t=true:=fun v=>by rw[z3p (List.getElem?_set_ne hut)];exact ho
     cases b<;>simp only[cond] at h ⊢
     . rw[key] at h;obtain⟨st2,g1,g2,g3,g4,g5⟩:=ihy _ _ r h (by simpa using hd) (k1 _) (k2 _) h1 h2 h3;exact⟨st2,g1,g2,g3,g4,by rw[g5];simp⟩
     . rw[key] at h;obtain⟨st2,g1,g2,g3,g4,g5⟩:=ihx _ _ r h (by simpa using hd) (k1 _) (k2 _) h1 h2 h3;exact⟨st2,g1,g2,g3,g4,by rw[g5];simp⟩
   . exact ihz _ _ r h hd hy0 ho h1 h2 h3
   . cases h
theorem zxa {d:Nat}{a:A}{z st1:List A}{p f:FP}(h:(lay (some d) a).cps E z p (fun a st fp=>some (a,st,fp))=some ((),st1,f)):f.bo=(z1ba a).append p.bo/\p.rd.length+(zd8 a).length+1<=f.rd.length:=by
 simp only[lay,Cmd.cps] at h;cases hk:zfb E z d a<;>rw[hk] at h
 . simp at h
 simp only[cond,Option.some.injEq,Prod.mk.injEq,true_and] at h;obtain⟨_,rfl⟩:=h;refine⟨rfl,?_⟩;simp;omega
theorem z183 {d t:Nat} {st st1:List A} {f:FP} (h:zp E (rdK E (.tmp t) fun a=>(match a with
 | .bor r=>.get r fun c=>(match c with
   | .row t xs=>.retire r (lay (some d) (.v (.sl t) xs))
   | _=>lay (some d) a)
 | _=>lay (some d) a)) st fp0=some ((),st1,f)) (hb:f.bo=[t]):4<=f.rd.length:=by
 have far:∀ r,(match st.getD r .dead with
  | .row t xs=>Cmd.retire r (lay (some d) (.v (.sl t) xs))
  | _=>lay (some d) (.bor r)).cps E st { fp0 with rd:=[r,t] } (fun a st fp=>some (a,st,fp))=some ((),st1,f)->4<=f.rd.length:=by
  intro r h;split at h
  . simp only[Cmd.cps] at h;obtain⟨h1,h2⟩:=zxa h;rw[hb] at h1;simp[z1ba,fp0] at h1
  . obtain⟨h1,h2⟩:=zxa h;simpa[zd8] using h2
 have near:∀ a:A,z1ba a=[]->(lay (some d) a).cps E st { fp0 with rd:=[t] } (fun a st fp=>some (a,st,fp))=some ((),st1,f)->4<=f.rd.length:=by
  intro a ha h;obtain⟨h1,h2⟩:=zxa h;rw[hb,ha] at h1;simp[fp0] at h1
 unfold zp at h;simp only[Cmd.cps,rdK] at h;cases hz:st.getD t .dead<;>rw[hz] at h<;>simp only[Cmd.cps] at h<;>first|exact far _ h|exact near _ rfl h|cases h
theorem z14m {all:Array Oper}{o:Oper}{k:Cmd Unit}{st st1 st2:List A}{f g:FP}(h1:zp E (z6c E all o) st fp0=some ((),st1,f))(h2:zp E k st1 fp0=some ((),st2,g))(hc:z11g o f g=true) :
 ∃ st1',zp E k st fp0=some ((),st1',g)/\zp E (z6c E all o) st1' fp0=some ((),st2,f):=by
 unfold z11g at hc;split at hc
 . rename_i t d ho hdst hgd;obtain⟨c1,c2⟩:=z7 hc;obtain⟨c3,c4⟩:=z7 c1;obtain⟨c5,c6⟩:=z7 c4;obtain⟨c7,c8⟩:=z7 c6;obtain⟨c9,c10⟩:=z7 c2;obtain⟨c11,c12⟩:=z7 c10;obtain⟨c13,c14⟩:=z7 c12;have frd:=of_decide_eq_true c3;have fbo:=of_decide_eq_true c5;have fov:f.ov=false:=by simpa using c7
   have fall:f.all=false:=by simpa using c8
   have htd:t≠d:=by intro e;subst e;simp at c9
   have hbt:∀ u,E.boxT d≠some (.sl u):=by
    intro u hu;unfold z6c z22 at h1;rw[hgd,ho,hdst] at h1;simp only[Option.bind_some,hu] at h1;have h4:=z183 h1 fbo;rw[frd] at h4;simp at h4
   have e0:∀ st:List A,zp E (z6c E all o) st fp0=zp E (rdK E (.tmp t) fun a=>lay (some d) a) st fp0:=by
    intro st;unfold z6c z22;rw[hgd,ho,hdst];simp only[Option.bind_some]
   have eo:∀ st:List A,z54 st t=true->zp E (z6c E all o) st fp0=zp E (.set d (.bor t) (.ret ())) st { fp0 with rd:=[t] }:=by
    intro st hst;rw[e0];rw[zhf] at hst;simp only[zp,Cmd.cps,rdK];cases hz:st.getD t .dead<;>rw[hz] at hst<;>first|rfl|(simp[A.own] at hst)
   obtain⟨a,ha⟩:∃ a,zp E (.set d a (.ret ())) st { fp0 with rd:=[t] }=some ((),st1,f):=by
    rw[e0] at h1;simp only[zp,Cmd.cps,rdK] at h1;cases hy:st.getD t .dead<;>rw[hy] at h1<;>first|exact⟨_,h1⟩|(simp[Cmd.cps] at h1)
   simp only[zp,Cmd.cps] at ha;cases hk:zfb E st d a<;>rw[hk] at ha
   . simp at ha
   simp only[cond,Option.some.injEq,Prod.mk.injEq,true_and] at ha;obtain⟨es,ef⟩:=ha;have hat:a=.bor t:=by
    have hb:z1ba a++[]=[t]:=by rw[<- fbo,<- ef];rfl
    cases a<;>simp[z1ba] at hb
    rw[hb]
   subst hat;have hok:=hk;unfold zfb at hok;obtain⟨k1,k2⟩:=z7 hok;obtain⟨k3,k4⟩:=z7 k1;have hd:d<st.length:=by simpa using k3
   have hown:z54 st t=true:=(z7 k2).2;obtain⟨y,hy0⟩:∃ y,st[d]?=some y:=⟨_,List.getElem?_eq_getElem hd⟩
   have hyd:st.getD d .dead=y:=by rw[List.getD_eq_getElem?_getD,hy0];rfl
   have hyr:zd8 y=[]:=by
    have hb:[t]++(zd8 y++[d,t])=[t,d,t]:=by rw[<- frd,<- ef,hyd];rfl
    have hl:=congrArg List.length hb;simp only[List.length_append,List.length_cons,List.length_nil] at hl;exact List.length_eq_zero_iff.1 (by omega)
   have hyo:y.own=false:=by
    have:(false || (st.getD d .dead).own)=f.ov:=by rw[<- ef];rfl
    rw[fov,hyd,Bool.false_or] at this;exact this
   have hset:∀ {z:List A},z[d]?=some y->z9d z d (.bor t)=z.set d (.bor t):=by
    intro z hz;have hzd:z.getD d .dead=y:=by rw[List.getD_eq_getElem?_getD,hz];rfl
    unfold z9d;rw[hzd];cases y<;>first|rfl|(simp[A.own] at hyo)
   have horf:∀ {z:List A},z[d]?=some y->ownRef z d=false:=by
    intro z hz;have hzd:z.getD d .dead=y:=by rw[List.getD_eq_getElem?_getD,hz];rfl
    unfold ownRef;rw[zhf,hzd,hyo]
   rw[hset hy0] at es;subst es;obtain⟨st2',g1,g2,g3,g4,g5⟩:=slip hyr htd k st fp0 _ h2 hd hy0 hown (by simpa using c11) (by simpa using c13) (by simpa using c14);refine⟨st2',g1,?_⟩;rw[eo st2' g4];simp only[zp,Cmd.cps];have hok2:zfb E st2' d (.bor t)=true:=by
    unfold zfb;rw[g5,k1];show z1j true (z1j (!(Nat.beq t d)) (z54 st2' t))=true;rw[g4,(z7 k2).1];rfl
   have hyd2:st2'.getD d .dead=y:=by rw[List.getD_eq_getElem?_getD,g3];rfl
   rw[hok2,hset g3,horf g3,hyd2];rw[horf hy0,hyd] at ef;simp only at g2;rw[g2,<- ef];rfl
 . cases hc
theorem z118 {all:Array Oper} {fps:List FP} {i:Nat}:∀ (l1 l2:List Nat) (st st':List A),RunI E all fps (l1++i::l2) st st'->(∀ j∈l1,znb (fps.getD j fp0) (fps.getD i fp0)=false\/∃ o,all[j]?=some o/\z11g o (fps.getD j fp0) (fps.getD i fp0)=true) →
 RunI E all fps (i::(l1++l2)) st st'
 | [],l2,st,st',h,_=>h
 | j :: l1,l2,st,st',h,hc=>by
   cases h with
   | cons ho h hr =>
     have:=z118 l1 l2 _ _ hr (fun k hk=>hc k (by simp[hk]));cases this with
     | cons ho2 h2 hr2 =>
       rcases hc j (by simp) with hc|⟨o',ho',hc⟩
       . obtain⟨st1',g1,g2⟩:=z1az h h2 hc;exact .cons ho2 g1 (.cons ho g2 hr2)
       . rw[ho] at ho';cases ho';obtain⟨st1',g1,g2⟩:=z14m h h2 hc;exact .cons ho2 g1 (.cons ho g2 hr2)
inductive Anc (all:List Oper):Nat->Nat->Prop
 | base {i j:Nat} {o:Oper} (hj:all[j]?=some o) (h:i∈znr o):Anc all i j
 | step {i k j:Nat} {o:Oper} (hj:all[j]?=some o) (hk:k∈znr o) (h:Anc all i k):Anc all i j
theorem zye {acc:List Nat} {i:Nat}:∀ (ks:List Nat) (m:Nat),(ks.foldl (fun m k=>m ||| (2^k ||| acc.getD k 0)) m).testBit i=true->m.testBit i=true\/∃ k∈ks,i=k\/(acc.getD k 0).testBit i=true
 | [],m,h=>.inl h
 | k :: ks,m,h=>by
   rcases zye ks _ h with h|⟨k',hk',h⟩
   . rw[Nat.testBit_or,Nat.testBit_or] at h;rcases Bool.or_eq_true _ _ ▸ h with h|h
     . exact .inl h
     . rcases Bool.or_eq_true _ _ ▸ h with h|h
       . rw[Nat.testBit_two_pow] at h;exact .inr ⟨k,by simp,.inl (by have:=of_decide_eq_true h;omega)⟩
       . exact .inr ⟨k,by simp,.inr h⟩
   . exact .inr ⟨k',by simp[hk'],h⟩
theorem zvt (all:List Oper):∀ (l:List Oper) (acc:List Nat),(∃ pre,all=pre++l/\pre.length=acc.length)->(∀ j m i,acc[j]?=some m->m.testBit i=true->Anc all i j) →
 ∀ j m i,(z15h l acc)[j]?=some m->m.testBit i=true->Anc all i j
 | [],acc,_,h,j,m,i,hj,hm=>h j m i hj hm
 | o :: l,acc,⟨pre,he,hl⟩,h,j,m,i,hj,hm=>by
   refine zvt all l _ ⟨pre++[o],by simp[he],by simp[hl]⟩ ?_ j m i hj hm;intro j m i hj hm;have happ:(acc.append [(znr o).foldl (fun m k=>m ||| (2^k ||| acc.getD k 0)) 0])=acc++[(znr o).foldl (fun m k=>m ||| (2^k ||| acc.getD k 0)) 0]:=rfl;rw[happ] at hj;by_cases hlt:j<acc.length
   . rw[List.getElem?_append_left hlt] at hj;exact h j m i hj hm
   . rw[List.getElem?_append_right (by omega)] at hj;have hj0:j=acc.length:=by
      rcases Nat.lt_or_ge (j - acc.length) 1 with h'|h'
      . omega
      . rw[List.getElem?_eq_none (by simpa using h')] at hj;cases hj
     subst hj0;simp at hj;subst hj;have ho:all[acc.length]?=some o:=by rw[he,<- hl];simp
     rcases zye _ _ hm with h'|⟨k,hk,h'|h'⟩
     . simp at h'
     . subst h';exact .base ho hk
     . refine .step ho hk ?_;cases hk':acc[k]? with
       | none=>simp[List.getD,hk'] at h'
       | some mk=>exact h k mk i hk' (by simpa[List.getD,hk'] using h')
theorem z13z {all:Array Oper}{listed:Array Bool}(hcl:∀ j o,all[j]?=some o->listed.getD j false=true->∀ k∈znr o,listed.getD k false=true){i j:Nat}(h:Anc all.toList i j) :
 (∀ o,all[j]?=some o->∀ k∈znr o,listed.getD k false=true)->listed.getD i false=true:=by
 induction h with
 | base hj hi=>intro hp;exact hp _ (by rw[<- Array.getElem?_toList];exact hj) _ hi
 | @step k j o hj hk _ ih =>
   intro hp;have hj':all[j]?=some o:=by rw[<- Array.getElem?_toList];exact hj
   exact ih fun o ho k hk'=>hcl _ o ho (hp _ hj' _ hk) k hk'
theorem zpc:∀ {l:List Oper} {i:Nat},zzz i l=true->∀ j o,l[j]?=some o->∀ k∈znr o,k<i+j
 | [],_,_,j,o,hj=>by simp at hj
 | x :: l,i,h,j,o,hj=>by
   obtain⟨h1,h2⟩:=z7 h;cases j with
   | zero =>
     simp at hj;subst hj;intro k hk;have:=List.all_eq_true.1 h1 k hk;simpa using this
   | succ j =>
     intro k hk;have:=zpc h2 j o (by simpa using hj) k hk;omega
theorem zy8 {o:Oper}{k:Nat}:k∈znr o ↔ ∃ e∈o.after,Region.binds .any e=true/\e.on=k:=by
 simp[znr,List.mem_map,List.mem_filter,and_assoc]
theorem zri {all:Array Oper}{listed:Array Bool}{i:Nat}:i∈Region.ready .any all listed ↔ i<all.size/\listed.getD i true=false/\∃ o,all[i]?=some o/\∀ k∈znr o,listed.getD k false=true:=by
 simp only[Region.ready,List.mem_filter,List.mem_range,Bool.and_eq_true,Bool.not_eq_true'];constructor
 . rintro⟨h1,h2,h3⟩;have ho:all[i]?=some all[i]:=Array.getElem?_eq_getElem h1;rw[ho] at h3;refine⟨h1,h2,_,ho,fun k hk=>?_⟩;obtain⟨e,he,hb,rfl⟩:=zy8.1 hk;have h3':(all[i].after.all fun e=>!Region.binds .any e || listed.getD e.on false)=true:=h3;have:=Array.all_eq_true'.1 h3' e he;rw[hb] at this;exact this
 . rintro⟨h1,h2,o,ho,h3⟩;refine⟨h1,h2,?_⟩;rw[ho];simp only[Option.map_some,Option.getD_some];rw[Array.all_eq_true'];intro e he;cases hb:Region.binds .any e with
   | false=>rfl
   | true=>rw[h3 e.on (zy8.2 ⟨e,he,hb,rfl⟩)];rfl
def left (n:Nat)(listed:Array Bool):List Nat:=(List.range n).filter fun i=>!listed.getD i true
theorem zqw {n i:Nat}{listed:Array Bool}:i∈left n listed ↔ i<n/\listed.getD i true=false:=by
 unfold left;rw[List.mem_filter,List.mem_range,Bool.not_eq_true']
theorem zx9 {n i:Nat}{listed:Array Bool}(hn:listed.size=n)(hi:i<n)(hl:listed.getD i true=false) :
 ∃ l1 l2,left n listed=l1++i::l2/\left n (listed.setIfInBounds i true)=l1++l2/\∀ j∈l1,j<i:=by
 have hsplit:List.range n=List.range i++i::(List.range' (i+1) (n - i - 1)):=by
  have h1:List.range n=List.range' 0 i++List.range' i (n - i):=by
   rw[List.range_eq_range'];have:=List.range'_append_1 (s:=0) (m:=i) (n:=n - i);rw[Nat.zero_add] at this;rw[this];congr 1;omega
  rw[h1,<- List.range_eq_range'];congr 1;obtain⟨k,hk⟩:∃ k,n - i=k+1:=⟨n - i - 1,by omega⟩
  rw[hk,List.range'_succ];simp
 have hget:∀ j,j≠i->(listed.setIfInBounds i true).getD j true=listed.getD j true:=by
  intro j hj;simp[Array.getD_eq_getD_getElem?,Array.getElem?_setIfInBounds_ne (Ne.symm hj)]
 have hgi:(listed.setIfInBounds i true).getD i true=true:=by
  simp[Array.getD_eq_getD_getElem?]
 refine⟨(List.range i).filter fun j=>!listed.getD j true,(List.range' (i+1) (n - i - 1)).filter fun j=>!listed.getD j true,?_,?_,?_⟩
 . unfold left;rw[hsplit,List.filter_append,List.filter_cons,if_pos (by simp[hl])]
 . unfold left;rw[hsplit,List.filter_append,List.filter_cons,if_neg (by simp[hgi])];congr 1
   . apply List.filter_congr;intro j hj;rw[hget j (by simp at hj;omega)]
   . apply List.filter_congr;intro j hj;rw[hget j (by simp[List.mem_range'] at hj;omega)]
 . intro j hj;simp at hj;exact hj.1
variable {P:Program} {c:Ctx}
theorem z16r {ρ:Option Nat} {all:Array Oper} {Q:Exit->Act->World->Prop} {fps:List FP} {st':List A} (hb:Base P E c) (hok:z16d all.toList fps=true) (hq:∀ a w,Sim c st' a w->Q .normal a w) :
 ∀ (fuel:Nat) (listed:Array Bool) (st:List A) (a:Act) (w:World),listed.size=all.size->(left all.size listed).length<=fuel →
   (∀ j o,all[j]?=some o->listed.getD j false=true->∀ k∈znr o,listed.getD k false=true) →
   RunI E all fps (left all.size listed) st st'->Sim c st a w->wpAnyIn (FR ρ) 0 P .any all Q fuel listed a w:=by
 obtain⟨hpo,hpairs⟩:=z7 hok;have hpred:=zpc hpo;have hready:∀ listed:Array Bool,listed.size=all.size->Region.ready .any all listed=[]->left all.size listed=[]:=by
  intro listed hsz hr;cases hl:left all.size listed with
  | nil=>rfl
  | cons i l =>
    -- the least one that is left is ready
    exfalso;have himem:i∈left all.size listed:=by rw[hl];simp
    have hi:i<all.size/\listed.getD i true=false:=zqw.1 himem;have hmin:∀ j,j<i->listed.getD j true=true:=by
     intro j hj;obtain⟨l1,l2,h1,_,h3⟩:=zx9 hsz hi.1 hi.2;cases l1 with
     | nil =>
       cases hlj:listed.getD j true with
       | true=>rfl
       | false =>
         have hmem:j∈left all.size listed:=zqw.2 ⟨by omega,hlj⟩;obtain⟨m1,m2,g1,_,g3⟩:=zx9 hsz (by omega:j<all.size) hlj;rw[h1] at g1;cases m1 with
         | nil=>simp at g1;omega
         | cons y m1=>simp at g1;have:=g3 y (by simp);omega
     | cons x l1 =>
       rw[h1] at hl;simp at hl;have:=h3 x (by simp);omega
    have:i∈Region.ready .any all listed:=by
     refine zri.2 ⟨hi.1,hi.2,all[i],Array.getElem?_eq_getElem hi.1,fun k hk=>?_⟩;have hki:=hpred i all[i] (by rw[Array.getElem?_toList];exact Array.getElem?_eq_getElem hi.1) k hk;have:=hmin k (by omega);have hks:k<listed.size:=by omega
     simpa[Array.getD_eq_getD_getElem?,hks] using this
    rw[hr] at this;cases this
 intro fuel
 induction fuel with
 | zero =>
   intro listed st a w hsz hlen hcl hrun hs;have hnil:left all.size listed=[]:=List.length_eq_zero_iff.1 (by omega);rw[hnil] at hrun;cases hrun;refine⟨?_,hq a w hs⟩;cases hr:Region.ready .any all listed with
   | nil=>rfl
   | cons i l =>
     exfalso;have hi:=zri.1 (show i∈Region.ready .any all listed by rw[hr];simp);have:i∈left all.size listed:=zqw.2 ⟨hi.1,hi.2.1⟩;rw[hnil] at this;cases this
 | succ fuel ih =>
   intro listed st a w hsz hlen hcl hrun hs;refine⟨fun hr=>?_,fun i hi=>?_⟩
   . rw[hready listed hsz hr] at hrun;cases hrun;exact hq a w hs
   . obtain⟨hil,hl,o,ho,hp⟩:=zri.1 hi;obtain⟨l1,l2,h1,h2,h3⟩:=zx9 hsz hil hl;rw[h1] at hrun;have hfront:=z118 l1 l2 _ _ hrun (fun j hj=>by
      have hji:=h3 j hj;have hjl:listed.getD j true=false:=by
       have:j∈left all.size listed:=by rw[h1];simp[hj]
       exact (zqw.1 this).2
      have hpr:=List.all_eq_true.1 hpairs i (by simpa using hil);have hpj:=List.all_eq_true.1 hpr j (by simpa using hji);unfold z193 at hpj;split at hpj
      . rename_i hcf;exact .inl hcf
      cases hbit:((z15h all.toList []).getD i 0).testBit j with
      | true =>
        exfalso;have hanc:Anc all.toList j i:=by
         cases hm:(z15h all.toList [])[i]? with
         | none=>simp[List.getD,hm] at hbit
         | some m=>exact zvt all.toList all.toList [] ⟨[],rfl,rfl⟩ (fun j m i hj _=>by simp at hj) i m j hm (by simpa[List.getD,hm] using hbit)
        have:=z13z hcl hanc (fun o' ho' k hk=>by rw[ho] at ho';cases ho';exact hp k hk);have hjs:j<listed.size:=by omega
        simp[Array.getD_eq_getD_getElem?,hjs] at this hjl;rw[this] at hjl;cases hjl
      | false =>
        right
        rw[hbit] at hpj;dsimp only at hpj;split at hpj
        . rename_i o' ho';exact⟨o',by rw[<- Array.getElem?_toList];exact ho',hpj⟩
        . cases hpj)
     cases hfront with
     | cons ho2 hx hr =>
       rw[ho] at ho2;cases ho2;have hg:=zor hx hb hs;have hnext:∀ a' w',Sim c _ a' w'->wpAnyIn (FR ρ) 0 P .any all Q fuel (listed.setIfInBounds i true) a' w':=fun a' w' hs'=>by
        refine ih _ _ a' w' (by simpa using hsz) (by rw[h2];rw[h1] at hlen;simp at hlen ⊢;omega) ?_ (by rw[h2];exact hr) hs';intro j o' hj hlj k hk;have hset:∀ k,listed.getD k false=true->(listed.setIfInBounds i true).getD k false=true:=by
         intro k hk;by_cases e:i=k
         . subst e;simp[Array.getD_eq_getD_getElem?,show i<listed.size by omega]
         . simpa[Array.getD_eq_getD_getElem?,Array.getElem?_setIfInBounds_ne e] using hk
        by_cases e:i=j
        . subst e;rw[ho] at hj;cases hj;exact hset k (hp k hk)
        . refine hset k (hcl j o' hj ?_ k hk);simpa[Array.getD_eq_getD_getElem?,Array.getElem?_setIfInBounds_ne e] using hlj
       unfold wpOpIn;rw[ho];dsimp only;split
       . rename_i hw;rw[if_pos hw] at hg;exact Oper.wpIn_mono hnext (hg ρ Q)
       . rename_i hw;rw[if_neg hw] at hg;exact⟨fun _ _=>trivial,hnext _ _ hg⟩
theorem zw7 {β:Type}{ops:Array Oper}{id:Nat}{K:List A->Option β}{y:β}{st:List A}(hb:Base P E c)(h:zow E ops ops.toList [] st K=some y) :
 ∃ st',K st'=some y/\∀ (ρ:Option Nat) (Q:Exit->Act->World->Prop) (a:Act) (w:World),Sim c st a w->(∀ a' w',Sim c st' a' w'->Q .normal a' w')->(Code.region id ops true).wpIn (FR ρ) 0 P Q a w:=by
 obtain⟨fps,st',hr,hK,hok⟩:=zz0 ops.toList [] st K h;refine⟨st',hK,fun ρ Q a w hs hq=>wpIn_region_any hb.env.mixed ?_⟩;have hlen:fps.length=ops.toList.length:=by
  clear h hK hok hs hq;generalize ops.toList=l at hr
  induction hr with
  | nil=>rfl
  | cons _ _ ih=>simp[ih]
 have hi:=zy2 (k:=0) fps hr (fun j=>by rw[Nat.zero_add,Array.getElem?_toList]) (fun j f hj=>by simp[List.getD,hj]);have hl0:left ops.size (Array.replicate ops.size false)=List.range' 0 ops.toList.length:=by
  unfold left;rw[<- List.range_eq_range',Array.length_toList];apply List.filter_eq_self.2;intro i hi;have:i<ops.size:=by simpa using hi
  simp[Array.getD_eq_getD_getElem?,this]
 refine z16r hb (by simpa using hok) hq ops.size _ st a _ (by simp) (by rw[hl0];simp) ?_ (by rw[hl0];exact hi) ?_
 . intro j o hj hlj;exfalso;rcases Nat.lt_or_ge j ops.size with hlt|hge
   . simp[Array.getD_eq_getD_getElem?,hlt] at hlj
   . simp[Array.getD_eq_getD_getElem?,hge] at hlj
 . obtain⟨S,ob,hs⟩:=hs;exact⟨S,ob,hs.world (Sub.refl _) ⟨hs.frame.size,hs.frame.same,hs.frame.tape,hs.frame.os,hs.frame.output⟩⟩
end
end
end Go.Lift
