import Derived.Test.YtnnjnkjfkaaikaaDoorLgP
set_option linter.all false
namespace Go.Lift
noncomputable section
section
variable {E:Env}
theorem zt8 {α:Type}(k:Cmd α):∀ (st:List A) (fp:FP) (r:α×List A×FP),zm E k st fp=some r->fp.all=true->r.2.2.all=true:=by
 induction k with
 | ret a=>intro st fp r h hf;rw[z5j h];exact hf
 | fail=>intro st fp r h;exact (z6 h).elim
 | get t k ih=>intro st fp r h hf;exact ih _ st _ r h hf
 | set t x k ih =>
   intro st fp r h hf;simp only[zm,Cmd.cps] at h;cases hk:zgn E st t x<;>rw[hk] at h
   . simp at h
   . exact ih _ _ r h (by simp[hf])
 | cont t x k ih =>
   intro st fp r h hf;simp only[zm,Cmd.cps] at h;cases hk:Nat.blt t st.length<;>rw[hk] at h
   . simp at h
   . exact ih _ _ r h (by simp[hf])
 | retire t k ih=>intro st fp r h hf;exact ih _ _ r h (by simp[hf])
 | test b x y ihx ihy =>
   intro st fp r h hf;rcases z8f h with⟨_,h⟩|⟨_,h⟩
   . exact ihx st fp r h hf
   . exact ihy st fp r h hf
 | call f args k ih =>
   intro st fp r h hf;obtain⟨x,_,h⟩:=zg6 h;exact ih _ _ st fp r h hf
 | guard d x y z ihx ihy ihz =>
   intro st fp r h hf;simp only[zm,Cmd.cps] at h;split at h
   . rename_i b _;cases b
     . exact ihy _ _ r h hf
     . exact ihx _ _ r h hf
   . exact ihz _ _ r h hf
   . cases h
theorem zu0 (x:A):zfb x=x.refs:=by cases x<;>rfl
theorem zie {r:Nat}:∀ {st:List A},hasRef r st=false->∀ x∈st,r∉zfb x
 | [],_,x,hx=>by cases hx
 | y :: l,h,x,hx=>by
   simp only[hasRef] at h;split at h
   . cases h
   . rename_i hy;rcases List.mem_cons.1 hx with rfl|hx
     . simpa using hy
     . exact zie h x hx
theorem z135 {st:List A}{t:Nat}(h:hasRef t st=false):st.map (zp9 t)=st:=by
 apply List.ext_getElem?;intro i;rw[List.getElem?_map];cases hz:st[i]? with
 | none=>rfl
 | some z =>
   simp only[Option.map_some];congr 1;rcases zgt t z with⟨e,_⟩|⟨_,hc⟩
   . exact e
   . exact absurd (by rw[zu0];exact hc) (zie h z (List.mem_of_getElem? hz))
theorem z15v {st:List A}{t:Nat}{y:A}(h:hasRef t st=false):st.map (zzx t y)=st:=by
 apply List.ext_getElem?;intro i;rw[List.getElem?_map];cases hz:st[i]? with
 | none=>rfl
 | some z =>
   simp only[Option.map_some];congr 1;have hn:=zie h z (List.mem_of_getElem? hz);cases z<;>simp only[zzx]<;>simp[zfb] at hn
   . rw[beq_false_of_ne (Ne.symm hn)];rfl
   . rw[beq_false_of_ne (Ne.symm hn)];rfl
   . rw[beq_false_of_ne (Ne.symm hn)];rfl
   . rw[show (List.contains _ t)=false by simpa using hn];rfl
   . rw[beq_false_of_ne (Ne.symm hn)];rfl
   . rw[beq_false_of_ne (Ne.symm hn)];rfl
theorem zo9 {st:List A}{t:Nat}{x:A}(h:ownRef st t=false):zas st t x=st.set t x:=by
 unfold ownRef at h;split at h
 . unfold zas;split<;>simp[z135 h]
 rename_i ho
 replace h:=ho
 unfold z62 at h;unfold zas;split at h
 . cases h
 . cases h
 . cases h
 . cases h
 . cases h
 . cases h
 . rename_i h1 h2 h3 h4 h5 h6;split
   . rename_i t' xs hy;exact absurd hy (h1 _ _)
   . rename_i t' xs hy;exact absurd hy (h2 _ _)
   . rename_i t' xs hy;exact absurd hy (h3 _ _)
   . rename_i hy;exact absurd hy h4
   . rename_i t' xs hy;exact absurd hy (h5 _ _)
   . rename_i xs hy;exact absurd hy (h6 _)
   . rfl
theorem z3m {st st2:List A}{t:Nat}(h:st2[t]?=st[t]?):z62 st2 t=z62 st t:=by
 unfold z62;have:st2.getD t .dead=st.getD t .dead:=by simp[List.getD,h]
 rw[this]
theorem zr2 {st st2:List A}{t:Nat}{x:A}(hl:st2.length=st.length)(h:∀ r∈zfb x,st2[r]?=st[r]?):zgn E st2 t x=zgn E st t x:=by
 unfold zgn;rw[hl];have:z101 st2 t x=z101 st t x:=by
  cases x<;>simp only[z101,zfb,List.mem_singleton,List.not_mem_nil,false_implies,implies_true,forall_eq] at h ⊢
  . rw[z3m h]
  . rw[z3m h]
  . rw[z3m h]
  . rename_i f rs;have:∀ r∈rs,(z20 (!(Nat.beq r t)) (z62 st2 r))=(z20 (!(Nat.beq r t)) (z62 st r)):=fun r hr=>by rw[z3m (h r hr)]
    rw[Bool.eq_iff_iff,List.all_eq_true,List.all_eq_true];exact⟨fun g r hr=>by rw[<- this r hr];exact g r hr,fun g r hr=>by rw[this r hr];exact g r hr⟩
  . rw[z3m h]
  . rw[z3m h]
 rw[this]
theorem zfi {st:List A}{t i:Nat}{x:A}(h:t<st.length):(st.set t x)[i]?=if i=t then some x else st[i]?:=by
 by_cases hi:i=t
 . subst hi;simp[h]
 . rw[if_neg hi,List.getElem?_set_ne (Ne.symm hi)]
def kL:Bool->A->List Nat
 | true,x=>z17n x
 | false,x=>zfb x
theorem zrd {c:Bool}{u:Nat}{x:A}(h:u∈kL c x):u∈zfb x:=by
 cases c
 . exact h
 . cases x<;>simp[kL,z17n] at h
   . simp[zfb,h]
   . simp[zfb,h]
   . simp[zfb,h]
def zbw (c:Bool)(u:Nat)(st:List A)(i:Nat):Prop:=∃ x,st[i]?=some x/\u∈kL c x
theorem z73 {u:Nat}:∀ {st:List A},hasRef u st=true ↔ ∃ i,zbw false u st i
 | []=>by simp[hasRef,zbw]
 | x :: l=>by
   have ih:=z73 (u:=u) (st:=l);have split:(∃ i,zbw false u (x::l) i) ↔ (u∈zfb x\/∃ i,zbw false u l i):=by
    constructor
    . rintro⟨i,y,h,hy⟩;cases i with
      | zero=>simp at h;subst h;exact .inl hy
      | succ i=>exact .inr ⟨i,y,by simpa using h,hy⟩
    . rintro (h|⟨i,y,h,hy⟩)
      . exact⟨0,x,by simp,h⟩
      . exact⟨i+1,y,by simpa using h,hy⟩
   rw[split,<- ih];simp only[hasRef];cases hc:(zfb x).contains u with
   | true=>simp at hc;simp[hc]
   | false=>simp at hc;simp[hc]
theorem zd3 {u:Nat}:∀ {st:List A},hasCel u st=true ↔ ∃ i,zbw true u st i
 | []=>by simp[hasCel,zbw]
 | x :: l=>by
   have ih:=zd3 (u:=u) (st:=l);have split:(∃ i,zbw true u (x::l) i) ↔ (u∈z17n x\/∃ i,zbw true u l i):=by
    constructor
    . rintro⟨i,y,h,hy⟩;cases i with
      | zero=>simp at h;subst h;exact .inl hy
      | succ i=>exact .inr ⟨i,y,by simpa using h,hy⟩
    . rintro (h|⟨i,y,h,hy⟩)
      . exact⟨0,x,by simp,h⟩
      . exact⟨i+1,y,by simpa using h,hy⟩
   rw[split,<- ih];cases x<;>simp only[hasCel,z17n,List.not_mem_nil,false_or,List.mem_singleton]
   case cel s n p =>
    cases hb:Nat.beq s u with
    | true=>simp[Nat.eq_of_beq_eq_true hb]
    | false =>
      have:¬ u=s:=by intro e;subst e;simp[Nat.beq_refl] at hb
      simp[this]
   case pel s n p v q =>
    cases hb:Nat.beq s u with
    | true=>simp[Nat.eq_of_beq_eq_true hb]
    | false =>
      have:¬ u=s:=by intro e;subst e;simp[Nat.beq_refl] at hb
      simp[this]
   case psl s n p v q lo hi =>
    cases hb:Nat.beq s u with
    | true=>simp[Nat.eq_of_beq_eq_true hb]
    | false =>
      have:¬ u=s:=by intro e;subst e;simp[Nat.beq_refl] at hb
      simp[this]
theorem zn9 {st:List A} {r:Nat} {x:A} (h:hasCel r st=false):z2h st r x=st.set r x:=by
 unfold z2h;congr 1;apply List.ext_getElem?;intro i;rw[List.getElem?_map];cases hz:st[i]? with
 | none=>rfl
 | some z =>
   simp only[Option.map_some];congr 1;rcases zef r z with⟨e,_⟩|⟨_,hc,_⟩
   . exact e
   . exfalso;have:∃ i,zbw true r st i:=by
      cases z<;>simp[A.cell] at hc
      . subst hc;exact⟨i,_,hz,by simp[kL,z17n]⟩
      . subst hc;exact⟨i,_,hz,by simp[kL,z17n]⟩
      . subst hc;exact⟨i,_,hz,by simp[kL,z17n]⟩
     rw[zd3.2 this] at h;cases h
theorem z4u {st:List A}{c:Bool}{t u i:Nat}{x:A}(h:t<st.length):zbw c u (st.set t x) i ↔ if i=t then u∈kL c x else zbw c u st i:=by
 unfold zbw;rw[zfi h];split
 . simp
 . rfl
theorem zmq {st:List A}{c:Bool}{u t:Nat}(h:zbw c u st t):u∈zfb (st.getD t .dead):=by
 obtain⟨x,h,hx⟩:=h;have:st.getD t .dead=x:=by simp[List.getD,h]
 rw[this];exact zrd hx
theorem zk0 {st:List A}{t:Nat}(h:hasRef t st=false):zhr st t=match z14w (st.getD t .dead) with
 | some y=>st.set t y
 | none=>st:=by
 unfold zhr;split<;>simp_all [z15v h]
theorem z12g {x y:A}(h:z14w x=some y):zfb y=[]/\zfb x=[]:=by
 cases x<;>simp[z14w] at h
 . subst h;exact⟨rfl,rfl⟩
 . split at h
   . cases h;exact⟨rfl,rfl⟩
   . cases h
 . unfold z12i at h;split at h
   . cases h;exact⟨rfl,rfl⟩
   . cases h
   . split at h
     . cases h;exact⟨rfl,rfl⟩
     . cases h
theorem frame {α:Type} (k:Cmd α):∀ (st:List A) (fp:FP) (r:α×List A×FP),zm E k st fp=some r->r.2.2.all=false →
 (∀ t∈fp.rd,t∈r.2.2.rd)/\(∀ t∈fp.wr,t∈r.2.2.wr)/\r.2.1.length=st.length/\(∀ t,t∉r.2.2.wr->r.2.1[t]?=st[t]?)/\(∀ t,t∉r.2.2.rd->∀ c i,zbw c t r.2.1 i ↔ zbw c t st i) ∧
 ∀ st2:List A,st2.length=st.length->(∀ t,t∈r.2.2.rd\/t∈fp.wr->st2[t]?=st[t]?)->(∀ t∈r.2.2.wr,∀ c i,zbw c t st2 i ↔ zbw c t st i) →
   ∃ st2',zm E k st2 fp=some (r.1,st2',r.2.2)/\st2'.length=st.length/\(∀ t∈r.2.2.wr,st2'[t]?=r.2.1[t]?)/\(∀ t,t∉r.2.2.wr->st2'[t]?=st2[t]?):=by
 induction k with
 | ret a =>
   intro st fp r h _;rw[z5j h];exact⟨fun _ h=>h,fun _ h=>h,rfl,fun _ _=>rfl,fun _ _ _ _=>.rfl,fun st2 hl hag _=>⟨st2,rfl,hl,fun t ht=>hag t (.inr ht),fun _ _=>rfl⟩⟩
 | fail=>intro st fp r h;exact (z6 h).elim
 | get t k ih =>
   intro st fp r h ha;obtain⟨h1,h2,h3,h4,h6,h5⟩:=ih _ st _ r h ha;refine⟨fun u hu=>h1 u (by simp[hu]),h2,h3,h4,h6,fun st2 hl hag hce=>?_⟩;obtain⟨st2',g1,g2,g3,g4⟩:=h5 st2 hl hag hce;refine⟨st2',?_,g2,g3,g4⟩;have:st2.getD t .dead=st.getD t .dead:=by
    have:=hag t (.inl (h1 t (by simp)));simp[List.getD,this]
   show zm E (k (st2.getD t .dead)) st2 _=_;rw[this];exact g1
 | set t x k ih =>
   intro st fp r h ha;simp only[zm,Cmd.cps] at h;cases hk:zgn E st t x<;>rw[hk] at h
   . simp at h
   simp only[cond] at h;obtain⟨hlt,_,_⟩:=z3u hk;have hown:ownRef st t=false:=by
    cases ho:ownRef st t with
    | false=>rfl
    | true =>
      have:=zt8 k _ _ r h (by simp[ho]);rw[ha] at this;cases this
   rw[hown] at h;rw[zo9 hown] at h;obtain⟨h1,h2,h3,h4,h6,h5⟩:=ih (st.set t x) _ r h ha;have hr1:∀ u∈zfb x,u∈r.2.2.rd:=fun u hu=>h1 u (List.mem_append.2 (.inl hu))
   have hr2:∀ u∈zfb (st.getD t .dead),u∈r.2.2.rd:=fun u hu=>h1 u (List.mem_append.2 (.inr (List.mem_append.2 (.inl hu))))
   have hr3:t∈r.2.2.rd:=h1 t (List.mem_append.2 (.inr (List.mem_append.2 (.inr (by simp)))));have hr4:∀ u∈fp.rd,u∈r.2.2.rd:=fun u hu=>h1 u (List.mem_append.2 (.inr (List.mem_append.2 (.inr (by simp[hu])))))
   refine⟨hr4,fun u hu=>h2 u (by simp[hu]),by simpa using h3,fun u hu=>?_,fun u hu c i=>?_,fun st2 hl hag hce=>?_⟩
   . rw[h4 u hu,zfi hlt,if_neg];intro e;subst e;exact hu (h2 _ (by simp))
   . rw[h6 u hu c i,z4u hlt];split
     . rename_i e;subst e;constructor
       . intro e;exact absurd (hr1 u (zrd e)) hu
       . intro hc;exact absurd (hr2 u (zmq hc)) hu
     . rfl
   . have href:∀ s∈zfb x,st2[s]?=st[s]?:=fun s hs=>hag s (.inl (hr1 s hs))
     have hlt2:t<st2.length:=by omega
     have hagt:st2[t]?=st[t]?:=hag t (.inl hr3);have hgd:st2.getD t .dead=st.getD t .dead:=by simp[List.getD,hagt]
     have htw:t∈r.2.2.wr:=h2 t (by simp);have ho2:ownRef st2 t=false:=by
      unfold ownRef at hown ⊢;rw[z3m hagt];cases ho:z62 st t with
      | false=>rfl
      | true =>
        rw[ho] at hown;dsimp only at hown ⊢;cases hr:hasRef t st2 with
        | false=>rfl
        | true =>
          obtain⟨i,hi⟩:=z73.1 hr;rw[z73.2 ⟨i,(hce t htw false i).1 hi⟩] at hown;cases hown
     obtain⟨st2',g1,g2,g3,g4⟩:=h5 (st2.set t x) (by simp[hl]) (fun u hu=>by
      rw[zfi hlt2,zfi hlt];by_cases e:u=t
      . rw[if_pos e,if_pos e]
      . rw[if_neg e,if_neg e];rcases hu with hu|hu
        . exact hag u (.inl hu)
        . rcases List.mem_cons.1 hu with hu|hu
          . exact absurd hu e
          . exact hag u (.inr hu)) (fun u hu c i=>by
      rw[z4u hlt2,z4u hlt];split
      . rfl
      . exact hce u hu c i)
     refine⟨st2',?_,by simpa using g2,g3,fun u hu=>?_⟩
     . simp only[zm,Cmd.cps];rw[zr2 hl href,hk,zo9 ho2,ho2,hgd];exact g1
     . rw[g4 u hu,zfi hlt2,if_neg];intro e;subst e;exact hu (h2 _ (by simp))
 | cont t x k ih =>
   intro st fp r h ha;simp only[zm,Cmd.cps] at h;cases hk:Nat.blt t st.length<;>rw[hk] at h
   . simp at h
   simp only[cond] at h;have hlt:t<st.length:=by simpa using hk
   have hnc:hasCel t st=false:=by
    cases ho:hasCel t st with
    | false=>rfl
    | true =>
      have:=zt8 k _ _ r h (by simp[ho]);rw[ha] at this;cases this
   rw[zn9 hnc,hnc] at h;obtain⟨h1,h2,h3,h4,h6,h5⟩:=ih (st.set t x) _ r h ha;have hr1:∀ u∈zfb x,u∈r.2.2.rd:=fun u hu=>h1 u (List.mem_append.2 (.inl hu))
   have hr2:∀ u∈zfb (st.getD t .dead),u∈r.2.2.rd:=fun u hu=>h1 u (List.mem_append.2 (.inr (List.mem_append.2 (.inl hu))))
   have hr3:t∈r.2.2.rd:=h1 t (List.mem_append.2 (.inr (List.mem_append.2 (.inr (by simp)))));have hr4:∀ u∈fp.rd,u∈r.2.2.rd:=fun u hu=>h1 u (List.mem_append.2 (.inr (List.mem_append.2 (.inr (by simp[hu])))))
   refine⟨hr4,fun u hu=>h2 u (by simp[hu]),by simpa using h3,fun u hu=>?_,fun u hu c i=>?_,fun st2 hl hag hce=>?_⟩
   . rw[h4 u hu,zfi hlt,if_neg];intro e;subst e;exact hu (h2 _ (by simp))
   . rw[h6 u hu c i,z4u hlt];split
     . rename_i e;subst e;constructor
       . intro e;exact absurd (hr1 u (zrd e)) hu
       . intro hc;exact absurd (hr2 u (zmq hc)) hu
     . rfl
   . have hlt2:t<st2.length:=by omega
     have htw:t∈r.2.2.wr:=h2 t (by simp);have hnc2:hasCel t st2=false:=by
      cases ho:hasCel t st2 with
      | false=>rfl
      | true =>
        obtain⟨i,hi⟩:=zd3.1 ho;rw[zd3.2 ⟨i,(hce t htw true i).1 hi⟩] at hnc;cases hnc
     have hagt:st2[t]?=st[t]?:=hag t (.inl hr3);have hgd:st2.getD t .dead=st.getD t .dead:=by simp[List.getD,hagt]
     obtain⟨st2',g1,g2,g3,g4⟩:=h5 (st2.set t x) (by simp[hl]) (fun u hu=>by
      rw[zfi hlt2,zfi hlt];by_cases e:u=t
      . rw[if_pos e,if_pos e]
      . rw[if_neg e,if_neg e];rcases hu with hu|hu
        . exact hag u (.inl hu)
        . rcases List.mem_cons.1 hu with hu|hu
          . exact absurd hu e
          . exact hag u (.inr hu)) (fun u hu c i=>by
      rw[z4u hlt2,z4u hlt];split
      . rfl
      . exact hce u hu c i)
     refine⟨st2',?_,by simpa using g2,g3,fun u hu=>?_⟩
     . simp only[zm,Cmd.cps];rw[hl,hk,zn9 hnc2,hnc2,hgd];exact g1
     . rw[g4 u hu,zfi hlt2,if_neg];intro e;subst e;exact hu (h2 _ (by simp))
 | retire t k ih =>
   intro st fp r h ha;simp only[zm,Cmd.cps] at h;have hnr:hasRef t st=false:=by
    cases ho:hasRef t st with
    | false=>rfl
    | true =>
      have:=zt8 k _ _ r h (by simp[ho]);rw[ha] at this;cases this
   rw[hnr,zk0 hnr] at h;cases hv:z14w (st.getD t .dead) with
   | none =>
     rw[hv] at h;obtain⟨h1,h2,h3,h4,h6,h5⟩:=ih st _ r h ha;have hr3:t∈r.2.2.rd:=h1 t (by simp);refine⟨fun u hu=>h1 u (by simp[hu]),fun u hu=>h2 u (by simp[hu]),h3,h4,h6,fun st2 hl hag hce=>?_⟩;have htw:t∈r.2.2.wr:=h2 t (by simp);have hnr2:hasRef t st2=false:=by
      cases ho:hasRef t st2 with
      | false=>rfl
      | true =>
        obtain⟨i,hi⟩:=z73.1 ho;rw[z73.2 ⟨i,(hce t htw false i).1 hi⟩] at hnr;cases hnr
     have hagt:st2[t]?=st[t]?:=hag t (.inl hr3);have hgd:st2.getD t .dead=st.getD t .dead:=by simp[List.getD,hagt]
     obtain⟨st2',g1,g2,g3,g4⟩:=h5 st2 hl (fun u hu=>by
      rcases hu with hu|hu
      . exact hag u (.inl hu)
      . rcases List.mem_cons.1 hu with rfl|hu
        . exact hagt
        . exact hag u (.inr hu)) hce
     refine⟨st2',?_,g2,g3,g4⟩;simp only[zm,Cmd.cps];rw[hnr2,zk0 hnr2,hgd,hv];exact g1
   | some y =>
     rw[hv] at h;dsimp only at h;obtain⟨hy1,hy2⟩:=z12g hv;have hlt:t<st.length:=by
      rcases Nat.lt_or_ge t st.length with h'|h'
      . exact h'
      . rw[List.getD_eq_getElem?_getD,List.getElem?_eq_none h'] at hv;simp[z14w] at hv
     obtain⟨h1,h2,h3,h4,h6,h5⟩:=ih (st.set t y) _ r h ha;have hr3:t∈r.2.2.rd:=h1 t (by simp);refine⟨fun u hu=>h1 u (by simp[hu]),fun u hu=>h2 u (by simp[hu]),by simpa using h3,fun u hu=>?_,fun u hu c i=>?_,fun st2 hl hag hce=>?_⟩
     . rw[h4 u hu,zfi hlt,if_neg];intro e;subst e;exact hu (h2 _ (by simp))
     . rw[h6 u hu c i,z4u hlt];split
       . rename_i e;subst e;constructor
         . intro e;have:=zrd e;rw[hy1] at this;cases this
         . intro hc;have:=zmq hc;rw[hy2] at this;cases this
       . rfl
     . have hlt2:t<st2.length:=by omega
       have htw:t∈r.2.2.wr:=h2 t (by simp);have hnr2:hasRef t st2=false:=by
        cases ho:hasRef t st2 with
        | false=>rfl
        | true =>
          obtain⟨i,hi⟩:=z73.1 ho;rw[z73.2 ⟨i,(hce t htw false i).1 hi⟩] at hnr;cases hnr
       have hagt:st2[t]?=st[t]?:=hag t (.inl hr3);have hgd:st2.getD t .dead=st.getD t .dead:=by simp[List.getD,hagt]
       obtain⟨st2',g1,g2,g3,g4⟩:=h5 (st2.set t y) (by simp[hl]) (fun u hu=>by
        rw[zfi hlt2,zfi hlt];by_cases e:u=t
        . rw[if_pos e,if_pos e]
        . rw[if_neg e,if_neg e];rcases hu with hu|hu
          . exact hag u (.inl hu)
          . rcases List.mem_cons.1 hu with hu|hu
            . exact absurd hu e
            . exact hag u (.inr hu)) (fun u hu c i=>by
        rw[z4u hlt2,z4u hlt];split
        . rfl
        . exact hce u hu c i)
       refine⟨st2',?_,by simpa using g2,g3,fun u hu=>?_⟩
       . simp only[zm,Cmd.cps];rw[hnr2,zk0 hnr2,hgd,hv];exact g1
       . rw[g4 u hu,zfi hlt2,if_neg];intro e;subst e;exact hu (h2 _ (by simp))
 | test b x y ihx ihy =>
   intro st fp r h ha;cases b with
   | true=>exact ihx st fp r h ha
   | false=>exact ihy st fp r h ha
 | call f args k ih =>
   intro st fp r h ha;obtain⟨x,hv,h⟩:=zg6 h;obtain⟨h1,h2,h3,h4,h6,h5⟩:=ih _ _ st fp r h ha;refine⟨h1,h2,h3,h4,h6,fun st2 hl hag hce=>?_⟩;obtain⟨st2',g1,g2,g3,g4⟩:=h5 st2 hl hag hce;refine⟨st2',?_,g2,g3,g4⟩;simp only[zm,Cmd.cps,hv,Option.bind_some];exact g1
 | guard d x y z ihx ihy ihz =>
   intro st fp r h ha;simp only[zm,Cmd.cps] at h;have key:∀ (k:Cmd α) (ih:∀ (st:List A) (fp:FP) (r:α×List A×FP),zm E k st fp=some r->r.2.2.all=false →
    (∀ t∈fp.rd,t∈r.2.2.rd)/\(∀ t∈fp.wr,t∈r.2.2.wr)/\r.2.1.length=st.length/\(∀ t,t∉r.2.2.wr->r.2.1[t]?=st[t]?)/\(∀ t,t∉r.2.2.rd->∀ c i,zbw c t r.2.1 i ↔ zbw c t st i) ∧
    ∀ st2:List A,st2.length=st.length->(∀ t,t∈r.2.2.rd\/t∈fp.wr->st2[t]?=st[t]?)->(∀ t∈r.2.2.wr,∀ c i,zbw c t st2 i ↔ zbw c t st i) →
      ∃ st2',zm E k st2 fp=some (r.1,st2',r.2.2)/\st2'.length=st.length/\(∀ t∈r.2.2.wr,st2'[t]?=r.2.1[t]?)/\(∀ t,t∉r.2.2.wr->st2'[t]?=st2[t]?)),
    zm E k st { fp with rd:=d::fp.rd }=some r->(∀ st2:List A,st2.getD d .dead=st.getD d .dead->zm E (.guard d x y z) st2 fp=zm E k st2 { fp with rd:=d::fp.rd }) →
    (∀ t∈fp.rd,t∈r.2.2.rd)/\(∀ t∈fp.wr,t∈r.2.2.wr)/\r.2.1.length=st.length/\(∀ t,t∉r.2.2.wr->r.2.1[t]?=st[t]?)/\(∀ t,t∉r.2.2.rd->∀ c i,zbw c t r.2.1 i ↔ zbw c t st i) ∧
    ∀ st2:List A,st2.length=st.length->(∀ t,t∈r.2.2.rd\/t∈fp.wr->st2[t]?=st[t]?)->(∀ t∈r.2.2.wr,∀ c i,zbw c t st2 i ↔ zbw c t st i) →
      ∃ st2',zm E (.guard d x y z) st2 fp=some (r.1,st2',r.2.2)/\st2'.length=st.length/\(∀ t∈r.2.2.wr,st2'[t]?=r.2.1[t]?)/\(∀ t,t∉r.2.2.wr->st2'[t]?=st2[t]?):=by
    intro k ih hk hsame;obtain⟨h1,h2,h3,h4,h6,h5⟩:=ih st _ r hk ha;refine⟨fun u hu=>h1 u (by simp[hu]),h2,h3,h4,h6,fun st2 hl hag hce=>?_⟩;obtain⟨st2',g1,g2,g3,g4⟩:=h5 st2 hl hag hce;refine⟨st2',?_,g2,g3,g4⟩;have:st2.getD d .dead=st.getD d .dead:=by
     have:=hag d (.inl (h1 d (by simp)));simp[List.getD,this]
    rw[hsame st2 this];exact g1
   split at h
   . rename_i b hb;cases b
     . simp only[cond] at h;rw[zgc hb (by simp)] at h;refine key y ihy h fun st2 hst=>?_
       rw[hb] at hst;simp only[zm,Cmd.cps,hst,cond,zgc hst (by simp)]
     . simp only[cond] at h;rw[zgc hb (by simp)] at h;refine key x ihx h fun st2 hst=>?_
       rw[hb] at hst;simp only[zm,Cmd.cps,hst,cond,zgc hst (by simp)]
   . rename_i hb;refine key z ihz h fun st2 hst=>?_
     rw[hb] at hst;simp only[zm,Cmd.cps,hst]
   . cases h
theorem zgq:∀ {l m:List Nat},meets l m=false->∀ t∈l,t∉m
 | [],_,_,t,ht=>by cases ht
 | x :: l,m,h,t,ht=>by
   simp only[meets] at h;split at h
   . cases h
   . rename_i hx;rcases List.mem_cons.1 ht with rfl|ht
     . simpa using hx
     . exact zgq h t ht
theorem zjp {f g:FP}(h:zf4 f g=false):f.all=false/\g.all=false/\(∀ t∈f.wr,t∉g.rd)/\(∀ t∈f.wr,t∉g.wr)/\(∀ t∈g.wr,t∉f.rd):=by
 simp only[zf4,Bool.or_eq_false_iff] at h;exact⟨h.1,h.2.1,zgq h.2.2.1,zgq h.2.2.2.1,zgq h.2.2.2.2⟩
theorem z1c6 {α:Type}{k1 k2:Cmd α}{x1 x2:α}{st st1 st2:List A}{f1 f2:FP}(h1:zm E k1 st fp0=some (x1,st1,f1))(h2:zm E k2 st1 fp0=some (x2,st2,f2))(hc:zf4 f1 f2=false) :
 ∃ st1',zm E k2 st fp0=some (x2,st1',f2)/\zm E k1 st1' fp0=some (x1,st2,f1):=by
 obtain⟨a1,a2,c1,c2,c3⟩:=zjp hc;obtain⟨_,_,l1,s1,q1,fr1⟩:=frame k1 st fp0 _ h1 a1;obtain⟨_,_,l2,s2,q2,fr2⟩:=frame k2 st1 fp0 _ h2 a2;dsimp only at l1 s1 q1 fr1 l2 s2 q2 fr2;obtain⟨st1',g1,g2,g3,g4⟩:=fr2 st l1.symm (fun t ht=>by
  rcases ht with ht|ht
  . exact (s1 t (fun hw=>c1 t hw ht)).symm
  . cases ht) (fun t ht c i=>(q1 t (c3 t ht) c i).symm)
 obtain⟨_,_,_,_,q3,_⟩:=frame k2 st fp0 _ g1 a2;dsimp only at q3;obtain⟨st2',k1',k2',k3,k4⟩:=fr1 st1' (by omega) (fun t ht=>by
  rcases ht with ht|ht
  . exact g4 t (fun hw=>c3 t hw ht)
  . cases ht) (fun t ht c i=>q3 t (c1 t ht) c i)
 refine⟨st1',g1,?_⟩;have:st2'=st2:=by
  apply List.ext_getElem?;intro t;by_cases ht1:t∈f1.wr
  . rw[k3 t ht1,s2 t (c2 t ht1)]
  . rw[k4 t ht1];by_cases ht2:t∈f2.wr
    . exact g3 t ht2
    . rw[g4 t ht2,s2 t ht2,s1 t ht1]
 rw[this] at k1';exact k1'
inductive RunI (E:Env) (all:Array Oper) (fps:List FP):List Nat->List A->List A->Prop
 | nil {st:List A}:RunI E all fps [] st st
 | cons {i:Nat} {o:Oper} {l:List Nat} {st st1 st2:List A} (ho:all[i]?=some o) (h:zm E (z3j E all o) st fp0=some ((),st1,fps.getD i fp0)) (hr:RunI E all fps l st1 st2):RunI E all fps (i::l) st st2
theorem zob {all:Array Oper}:∀ {l:List Oper} {fs:List FP} {st st':List A} (k:Nat) (fps:List FP),Run E all l fs st st'->(∀ j,l[j]?=all[k+j]?)->(∀ j f,fs[j]?=some f->fps.getD (k+j) fp0=f) →
 RunI E all fps (List.range' k l.length) st st'
 | [],_,_,_,k,fps,.nil,_,_=>.nil
 | o::l,f::fs,st,st',k,fps,.cons h hr,hl,hf=>by
   rw[List.length_cons,List.range'_succ];have h0:fps.getD k fp0=f:=by simpa using hf 0 f rfl
   refine .cons (by simpa using (hl 0).symm) (by rw[h0];exact h) (zob (k+1) fps hr (fun j=>?_) (fun j g hj=>?_))
   . have:=hl (j+1);simpa[Nat.add_assoc,Nat.add_comm 1 j] using this
   . have:=hf (j+1) g (by simpa using hj);simpa[Nat.add_assoc,Nat.add_comm 1 j] using this
theorem zei {α:Type}(k:Cmd α):∀ (st:List A) (fp:FP) (r:α×List A×FP),zm E k st fp=some r->(∀ u∈fp.rd,u∈r.2.2.rd)/\(∀ u∈fp.wr,u∈r.2.2.wr)/\(∀ u∈fp.ow,u∈r.2.2.ow):=by
 induction k with
 | ret a=>intro st fp r h;rw[z5j h];exact⟨fun _ h=>h,fun _ h=>h,fun _ h=>h⟩
 | fail=>intro st fp r h;exact (z6 h).elim
 | get t k ih =>
   intro st fp r h;obtain⟨h1,h2,h3⟩:=ih _ st _ r h;exact⟨fun u hu=>h1 u (by simp[hu]),h2,h3⟩
 | set t x k ih =>
   intro st fp r h;simp only[zm,Cmd.cps] at h;cases hk:zgn E st t x<;>rw[hk] at h
   . simp at h
   obtain⟨h1,h2,h3⟩:=ih _ _ r h;exact⟨fun u hu=>h1 u (List.mem_append.2 (.inr (List.mem_append.2 (.inr (by simp[hu]))))),fun u hu=>h2 u (by simp[hu]),fun u hu=>h3 u (by simp[hu])⟩
 | cont t x k ih =>
   intro st fp r h;simp only[zm,Cmd.cps] at h;cases hk:Nat.blt t st.length<;>rw[hk] at h
   . simp at h
   obtain⟨h1,h2,h3⟩:=ih _ _ r h;exact⟨fun u hu=>h1 u (List.mem_append.2 (.inr (List.mem_append.2 (.inr (by simp[hu]))))),fun u hu=>h2 u (by simp[hu]),fun u hu=>h3 u (by cases x.own<;>simp[hu])⟩
 | retire t k ih =>
   intro st fp r h;obtain⟨h1,h2,h3⟩:=ih _ _ r h;exact⟨fun u hu=>h1 u (by simp[hu]),fun u hu=>h2 u (by simp[hu]),fun u hu=>h3 u (by simp[hu])⟩
 | test b x y ihx ihy =>
   intro st fp r h;rcases z8f h with⟨_,h⟩|⟨_,h⟩
   . exact ihx st fp r h
   . exact ihy st fp r h
 | call f args k ih =>
   intro st fp r h;obtain⟨x,_,h⟩:=zg6 h;exact ih _ _ st fp r h
 | guard d x y z ihx ihy ihz =>
   intro st fp r h;simp only[zm,Cmd.cps] at h;split at h
   . rename_i b _;cases b
     . obtain⟨h1,h2,h3⟩:=ihy _ _ r h;exact⟨fun u hu=>h1 u (by simp[hu]),h2,h3⟩
     . obtain⟨h1,h2,h3⟩:=ihx _ _ r h;exact⟨fun u hu=>h1 u (by simp[hu]),h2,h3⟩
   . obtain⟨h1,h2,h3⟩:=ihz _ _ r h;exact⟨fun u hu=>h1 u (by simp[hu]),h2,h3⟩
   . cases h
theorem zst {α:Type}{u:Nat}{x y z:Cmd α}{st:List A}{fp:FP}{r:α×List A×FP}(h:zm E (.guard u x y z) st fp=some r):u∈r.2.2.rd:=by
 simp only[zm,Cmd.cps] at h;split at h
 . rename_i b _;cases b
   . exact (zei _ _ _ r h).1 u (by simp)
   . exact (zei _ _ _ r h).1 u (by simp)
 . exact (zei _ _ _ r h).1 u (by simp)
 . cases h
theorem zpc {st:List A}{d t u:Nat}{y:A}(hd:d<st.length)(hy0:st[d]?=some y)(hy:zfb y=[])(hu:u≠t):hasRef u (st.set d (.bor t))=hasRef u st:=by
 rw[Bool.eq_iff_iff,z73,z73];constructor
 . rintro⟨i,h⟩;rw[z4u hd] at h;split at h
   . simp[kL,zfb] at h;exact absurd h hu
   . exact⟨i,h⟩
 . rintro⟨i,h⟩;refine⟨i,(z4u hd).2 ?_⟩;split
   . rename_i e;subst e;obtain⟨z,h1,h2⟩:=h;rw[hy0] at h1;cases h1;have:=zrd h2;rw[hy] at this;cases this
   . exact h
theorem zwp {st:List A}{d t u:Nat}{y:A}(hd:d<st.length)(hy0:st[d]?=some y)(hy:zfb y=[]):hasCel u (st.set d (.bor t))=hasCel u st:=by
 rw[Bool.eq_iff_iff,zd3,zd3];constructor
 . rintro⟨i,h⟩;rw[z4u hd] at h;split at h
   . simp[kL,z17n] at h
   . exact⟨i,h⟩
 . rintro⟨i,h⟩;refine⟨i,(z4u hd).2 ?_⟩;split
   . rename_i e;subst e;obtain⟨z,h1,h2⟩:=h;rw[hy0] at h1;cases h1;have:=zrd h2;rw[hy] at this;cases this
   . exact h
theorem zg4 {st:List A}{d u:Nat}{x:A}(h:u≠d):(st.set d x).getD u .dead=st.getD u .dead:=by
 rw[List.getD_eq_getElem?_getD,List.getD_eq_getElem?_getD,List.getElem?_set_ne (Ne.symm h)]
theorem zw7 {st:List A}{d t u:Nat}{y:A}(hd:d<st.length)(hy0:st[d]?=some y)(hy:zfb y=[])(hu:u≠t)(hud:u≠d):ownRef (st.set d (.bor t)) u=ownRef st u:=by
 unfold ownRef;rw[z3m (List.getElem?_set_ne (Ne.symm hud)),zpc hd hy0 hy hu]
theorem zi8 {st:List A}{t:Nat}:z62 st t=(st.getD t .dead).own:=by
 unfold z62;cases st.getD t .dead<;>rfl
theorem z15n {x:A}(h:x.own=true):x.refs=[]:=by cases x<;>simp_all [A.own,A.refs]
theorem z13e {u:Nat}{x:A}(h:x.own=true):zp9 u x=x:=by
 rcases zgt u x with⟨e,_⟩|⟨_,hc⟩
 . exact e
 . rw[z15n h] at hc;cases hc
theorem z10b {u:Nat}{x:A}(h:x.own=true):zmh u x=x:=by
 cases x<;>simp_all [A.own,zmh]
theorem z15i {u:Nat}{y x:A}(h:x.own=true):zzx u y x=x:=by
 cases x<;>simp_all [A.own,zzx]
theorem z10d {u:Nat}{x:A}(h:zfb x=[]):zp9 u x=x:=by
 rcases zgt u x with⟨e,_⟩|⟨_,hc⟩
 . exact e
 . rw[<- zu0,h] at hc;cases hc
theorem z10c {u:Nat}{x:A}(h:zfb x=[]):zmh u x=x:=by
 cases x<;>simp_all [zfb,zmh]
theorem z12j {u:Nat}{y x:A}(h:zfb x=[]):zzx u y x=x:=by
 cases x<;>simp_all [zfb,zzx]
theorem zsj (f:A->A){st:List A}{d t:Nat}{y:A}(hd:d<st.length)(hy0:st[d]?=some y)(hfy:f y=y)(hft:f (.bor t)=.bor t)(htd:t≠d)(ho:z62 st t=true)(hfo:∀ x:A,x.own=true->f x=x) :
 (st.set d (.bor t)).map f=(st.map f).set d (.bor t)/\(st.map f)[d]?=some y/\z62 (st.map f) t=true:=by
 refine⟨by rw[List.map_set,hft],by rw[List.getElem?_map,hy0,Option.map_some,hfy],?_⟩;rw[zi8] at ho ⊢;have h1:(st.map f).getD t .dead=st.getD t .dead:=by
  rw[List.getD_eq_getElem?_getD,List.getD_eq_getElem?_getD,List.getElem?_map];rw[List.getD_eq_getElem?_getD] at ho;cases hz:st[t]? with
  | none=>rw[hz] at ho;cases ho
  | some z =>
    rw[hz] at ho;simp only[Option.map_some,Option.getD_some] at ho ⊢;exact hfo z ho
 rw[h1];exact ho
theorem z13f {u t:Nat}(h:u≠t):zp9 u (.bor t)=.bor t:=by
 simp only[zp9];rw[beq_false_of_ne (Ne.symm h)];rfl
theorem z15j {u t:Nat}{y:A}(h:u≠t):zzx u y (.bor t)=.bor t:=by
 simp only[zzx];rw[beq_false_of_ne (Ne.symm h)];rfl
theorem zzs {st:List A}{d t u:Nat}{x y:A}(hd:d<st.length)(hy0:st[d]?=some y)(hy:zfb y=[])(htd:t≠d)(ho:z62 st t=true)(hu:u≠t)(hud:u≠d) :
 zas (st.set d (.bor t)) u x=(zas st u x).set d (.bor t)/\(zas st u x)[d]?=some y/\z62 (zas st u x) t=true:=by
 obtain⟨m1,m2,m3⟩:=zsj (zp9 u) hd hy0 (z10d hy) (z13f hu) htd ho (fun _ h=>z13e h);unfold zas;rw[zg4 hud];split
 all_goals
  refine⟨?_,?_,?_⟩
  first
   | rw[m1,List.set_comm _ _ (Ne.symm hud)]
   | rw[List.set_comm _ _ (Ne.symm hud)]
  first
   | (rw[List.getElem?_set_ne hud];exact m2)
   | (rw[List.getElem?_set_ne hud];exact hy0)
  first
   | (rw[z3m (List.getElem?_set_ne hu)];exact m3)
   | (rw[z3m (List.getElem?_set_ne hu)];exact ho)
theorem zwx {st:List A}{d t u:Nat}{x y:A}(hd:d<st.length)(hy0:st[d]?=some y)(hy:zfb y=[])(htd:t≠d)(ho:z62 st t=true)(hu:u=t->x.own=true)(hul:u<st.length)(hud:u≠d) :
 z2h (st.set d (.bor t)) u x=(z2h st u x).set d (.bor t)/\(z2h st u x)[d]?=some y/\z62 (z2h st u x) t=true:=by
 obtain⟨m1,m2,m3⟩:=zsj (zmh u) hd hy0 (z10c hy) rfl htd ho (fun _ h=>z10b h);unfold z2h;refine⟨by rw[m1,List.set_comm _ _ (Ne.symm hud)],by rw[List.getElem?_set_ne hud];exact m2,?_⟩;by_cases e:u=t
 . subst e;rw[zi8,List.getD_eq_getElem?_getD,List.getElem?_set_self (by simpa using hul)];exact hu rfl
 . rw[z3m (List.getElem?_set_ne e)];exact m3
theorem zzw {st:List A}{d t u:Nat}{y:A}(hd:d<st.length)(hy0:st[d]?=some y)(hy:zfb y=[])(htd:t≠d)(ho:z62 st t=true)(hu:u≠t)(hud:u≠d) :
 zhr (st.set d (.bor t)) u=(zhr st u).set d (.bor t)/\(zhr st u)[d]?=some y/\z62 (zhr st u) t=true:=by
 unfold zhr;rw[zg4 hud];split
 . rename_i z _;obtain⟨m1,m2,m3⟩:=zsj (zzx u z) hd hy0 (z12j hy) (z15j hu) htd ho (fun _ h=>z15i h);exact⟨by rw[m1,List.set_comm _ _ (Ne.symm hud)],by rw[List.getElem?_set_ne hud];exact m2,by rw[z3m (List.getElem?_set_ne hu)];exact m3⟩
 . exact⟨rfl,hy0,ho⟩
theorem slip {α:Type} {d t:Nat} {y:A} (hy:zfb y=[]) (htd:t≠d) (k:Cmd α):∀ (st:List A) (fp:FP) (r:α×List A×FP),zm E k (st.set d (.bor t)) fp=some r->d<st.length->st[d]?=some y->z62 st t=true →
 d∉r.2.2.rd->d∉r.2.2.wr->t∉r.2.2.ow->∃ st2,zm E k st fp=some (r.1,st2,r.2.2)/\r.2.1=st2.set d (.bor t)/\st2[d]?=some y/\z62 st2 t=true/\st2.length=st.length:=by
 induction k with
 | ret a =>
   intro st fp r h hd hy0 ho _ _ _;rw[z5j h];exact⟨st,rfl,rfl,hy0,ho,rfl⟩
 | fail=>intro st fp r h;exact (z6 h).elim
 | get u k ih =>
   intro st fp r h hd hy0 ho h1 h2 h3;have hmem:u∈r.2.2.rd:=(zei (k _) _ { fp with rd:=u::fp.rd } r h).1 u (by simp);have hud:u≠d:=fun e=>h1 (e ▸ hmem)
   have hg:(st.set d (.bor t)).getD u .dead=st.getD u .dead:=zg4 hud;have h':zm E (k (st.getD u .dead)) (st.set d (.bor t)) { fp with rd:=u::fp.rd }=some r:=by rw[<- hg];exact h
   exact ih _ st _ r h' hd hy0 ho h1 h2 h3
 | set u x k ih =>
   intro st fp r h hd hy0 ho h1 h2 h3;simp only[zm,Cmd.cps] at h;cases hk:zgn E (st.set d (.bor t)) u x<;>rw[hk] at h
   . simp at h
   simp only[cond] at h;obtain⟨m1,m2,m3⟩:=zei k _ _ r h;have hud:u≠d:=fun e=>h2 (by subst e;exact m2 _ (by simp))
   have hut:u≠t:=fun e=>h3 (by subst e;exact m3 _ (by simp))
   have hxr:∀ s∈zfb x,s≠d:=fun s hs e=>h1 (by subst e;exact m1 _ (List.mem_append.2 (.inl hs)))
   obtain⟨e1,e2,e3⟩:=zzs (x:=x) hd hy0 hy htd ho hut hud;have hk':zgn E st u x=true:=by
    rw[<- hk];exact (zr2 (by simp) (fun s hs=>List.getElem?_set_ne (Ne.symm (hxr s hs)))).symm
   rw[e1,zw7 hd hy0 hy hut hud,zg4 hud] at h;obtain⟨st2,g1,g2,g3,g4,g5⟩:=ih _ _ r h (by rw[z2v];exact hd) e2 e3 h1 h2 h3;refine⟨st2,?_,g2,g3,g4,by rw[g5,z2v]⟩;simp only[zm,Cmd.cps];rw[hk'];exact g1
 | cont u x k ih =>
   intro st fp r h hd hy0 ho h1 h2 h3;simp only[zm,Cmd.cps] at h;cases hk:Nat.blt u (st.set d (.bor t)).length<;>rw[hk] at h
   . simp at h
   simp only[cond] at h;obtain⟨m1,m2,m3⟩:=zei k _ _ r h;have hud:u≠d:=fun e=>h2 (by subst e;exact m2 _ (by simp))
   have hut:u=t->x.own=true:=by
    intro e;cases hx:x.own with
    | true=>rfl
    | false=>exact absurd (m3 t (by rw[hx,e];simp)) h3
   have hul:u<st.length:=by simpa using hk
   obtain⟨e1,e2,e3⟩:=zwx (x:=x) hd hy0 hy htd ho hut hul hud;rw[e1,zwp hd hy0 hy,zg4 hud] at h;obtain⟨st2,g1,g2,g3,g4,g5⟩:=ih _ _ r h (by simpa[z2h] using hd) e2 e3 h1 h2 h3;refine⟨st2,?_,g2,g3,g4,by rw[g5];simp[z2h]⟩;simp only[zm,Cmd.cps];rw[show Nat.blt u st.length=true by simpa using hul];exact g1
 | retire u k ih =>
   intro st fp r h hd hy0 ho h1 h2 h3;simp only[zm,Cmd.cps] at h;obtain⟨m1,m2,m3⟩:=zei k _ _ r h;have hud:u≠d:=fun e=>h2 (by subst e;exact m2 _ (by simp))
   have hut:u≠t:=fun e=>h3 (by subst e;exact m3 _ (by simp))
   obtain⟨e1,e2,e3⟩:=zzw hd hy0 hy htd ho hut hud;rw[e1,zpc hd hy0 hy hut] at h;obtain⟨st2,g1,g2,g3,g4,g5⟩:=ih _ _ r h (by rw[z6j];exact hd) e2 e3 h1 h2 h3;exact⟨st2,g1,g2,g3,g4,by rw[g5,z6j]⟩
 | test b x y' ihx ihy =>
   intro st fp r h;cases b with
   | true=>exact ihx st fp r h
   | false=>exact ihy st fp r h
 | call f args k ih =>
   intro st fp r h hd hy0 ho h1 h2 h3;obtain⟨x,hv,h⟩:=zg6 h;obtain⟨st2,g1,g⟩:=ih _ _ st fp r h hd hy0 ho h1 h2 h3;refine⟨st2,?_,g⟩;simp only[zm,Cmd.cps,hv,Option.bind_some];exact g1
 | guard u x y' z ihx ihy ihz =>
   intro st fp r h hd hy0 ho h1 h2 h3;have hud:u≠d:=fun e=>h1 (by subst e;exact (zst h))
   simp only[zm,Cmd.cps] at h ⊢;rw[zg4 hud] at h;split at h
   . rename_i b hb;have hut:u≠t:=by
      intro e;subst e;rw[zi8,hb] at ho;cases ho
     have key:∀ v:A,(st.set d (.bor t)).set u v=(st.set u v).set d (.bor t):=fun v=>List.set_comm _ _ (Ne.symm hud)
     have k1:∀ v:A,(st.set u v)[d]?=some y:=fun v=>by rw[List.getElem?_set_ne hud];exact hy0
     have k2:∀ v:A,z62 (st.set u v) t=true:=fun v=>by rw[z3m (List.getElem?_set_ne hut)];exact ho
     cases b<;>simp only[cond] at h ⊢
     . rw[key] at h;obtain⟨st2,g1,g2,g3,g4,g5⟩:=ihy _ _ r h (by simpa using hd) (k1 _) (k2 _) h1 h2 h3;exact⟨st2,g1,g2,g3,g4,by rw[g5];simp⟩
     . rw[key] at h;obtain⟨st2,g1,g2,g3,g4,g5⟩:=ihx _ _ r h (by simpa using hd) (k1 _) (k2 _) h1 h2 h3;exact⟨st2,g1,g2,g3,g4,by rw[g5];simp⟩
   . exact ihz _ _ r h hd hy0 ho h1 h2 h3
   . cases h
theorem zsn {d:Nat}{a:A}{z st1:List A}{p f:FP}(h:(lay (some d) a).cps E z p (fun a st fp=>some (a,st,fp))=some ((),st1,f)):f.bo=(z1dp a).append p.bo/\p.rd.length+(zfb a).length+1<=f.rd.length:=by
 simp only[lay,Cmd.cps] at h;cases hk:zgn E z d a<;>rw[hk] at h
 . simp at h
 simp only[cond,Option.some.injEq,Prod.mk.injEq,true_and] at h;obtain⟨_,rfl⟩:=h;refine⟨rfl,?_⟩;simp;omega
theorem z15t {d t:Nat} {st st1:List A} {f:FP} (h:zm E (rdK E (.tmp t) fun a=>(match a with
 | .bor r=>.get r fun c=>(match c with
   | .row t xs=>.retire r (lay (some d) (.v (.sl t) xs))
   | _=>lay (some d) a)
 | _=>lay (some d) a)) st fp0=some ((),st1,f)) (hb:f.bo=[t]):4<=f.rd.length:=by
 have far:∀ r,(match st.getD r .dead with
  | .row t xs=>Cmd.retire r (lay (some d) (.v (.sl t) xs))
  | _=>lay (some d) (.bor r)).cps E st { fp0 with rd:=[r,t] } (fun a st fp=>some (a,st,fp))=some ((),st1,f)->4<=f.rd.length:=by
  intro r h;split at h
  . simp only[Cmd.cps] at h;obtain⟨h1,h2⟩:=zsn h;rw[hb] at h1;simp[z1dp,fp0] at h1
  . obtain⟨h1,h2⟩:=zsn h;simpa[zfb] using h2
 have near:∀ a:A,z1dp a=[]->(lay (some d) a).cps E st { fp0 with rd:=[t] } (fun a st fp=>some (a,st,fp))=some ((),st1,f)->4<=f.rd.length:=by
  intro a ha h;obtain⟨h1,h2⟩:=zsn h;rw[hb,ha] at h1;simp[fp0] at h1
 unfold zm at h;simp only[Cmd.cps,rdK] at h;cases hz:st.getD t .dead<;>rw[hz] at h<;>simp only[Cmd.cps] at h<;>first|exact far _ h|exact near _ rfl h|cases h
theorem z126 {all:Array Oper}{o:Oper}{k:Cmd Unit}{st st1 st2:List A}{f g:FP}(h1:zm E (z3j E all o) st fp0=some ((),st1,f))(h2:zm E k st1 fp0=some ((),st2,g))(hc:zy9 o f g=true) :
 ∃ st1',zm E k st fp0=some ((),st1',g)/\zm E (z3j E all o) st1' fp0=some ((),st2,f):=by
 unfold zy9 at hc;split at hc
 . rename_i t d ho hdst hgd;obtain⟨c1,c2⟩:=za hc;obtain⟨c3,c4⟩:=za c1;obtain⟨c5,c6⟩:=za c4;obtain⟨c7,c8⟩:=za c6;obtain⟨c9,c10⟩:=za c2;obtain⟨c11,c12⟩:=za c10;obtain⟨c13,c14⟩:=za c12;have frd:=of_decide_eq_true c3;have fbo:=of_decide_eq_true c5;have fov:f.ov=false:=by simpa using c7
   have fall:f.all=false:=by simpa using c8
   have htd:t≠d:=by intro e;subst e;simp at c9
   have hbt:∀ u,E.boxT d≠some (.sl u):=by
    intro u hu;unfold z3j z2f at h1;rw[hgd,ho,hdst] at h1;simp only[Option.bind_some,hu] at h1;have h4:=z15t h1 fbo;rw[frd] at h4;simp at h4
   have e0:∀ st:List A,zm E (z3j E all o) st fp0=zm E (rdK E (.tmp t) fun a=>lay (some d) a) st fp0:=by
    intro st;unfold z3j z2f;rw[hgd,ho,hdst];simp only[Option.bind_some]
   have eo:∀ st:List A,z62 st t=true->zm E (z3j E all o) st fp0=zm E (.set d (.bor t) (.ret ())) st { fp0 with rd:=[t] }:=by
    intro st hst;rw[e0];rw[zi8] at hst;simp only[zm,Cmd.cps,rdK];cases hz:st.getD t .dead<;>rw[hz] at hst<;>first|rfl|(simp[A.own] at hst)
   obtain⟨a,ha⟩:∃ a,zm E (.set d a (.ret ())) st { fp0 with rd:=[t] }=some ((),st1,f):=by
    rw[e0] at h1;simp only[zm,Cmd.cps,rdK] at h1;cases hy:st.getD t .dead<;>rw[hy] at h1<;>first|exact⟨_,h1⟩|(simp[Cmd.cps] at h1)
   simp only[zm,Cmd.cps] at ha;cases hk:zgn E st d a<;>rw[hk] at ha
   . simp at ha
   simp only[cond,Option.some.injEq,Prod.mk.injEq,true_and] at ha;obtain⟨es,ef⟩:=ha;have hat:a=.bor t:=by
    have hb:z1dp a++[]=[t]:=by rw[<- fbo,<- ef];rfl
    cases a<;>simp[z1dp] at hb
    rw[hb]
   subst hat;have hok:=hk;unfold zgn at hok;obtain⟨k1,k2⟩:=za hok;obtain⟨k3,k4⟩:=za k1;have hd:d<st.length:=by simpa using k3
   have hown:z62 st t=true:=(za k2).2;obtain⟨y,hy0⟩:∃ y,st[d]?=some y:=⟨_,List.getElem?_eq_getElem hd⟩
   have hyd:st.getD d .dead=y:=by rw[List.getD_eq_getElem?_getD,hy0];rfl
   have hyr:zfb y=[]:=by
    have hb:[t]++(zfb y++[d,t])=[t,d,t]:=by rw[<- frd,<- ef,hyd];rfl
    have hl:=congrArg List.length hb;simp only[List.length_append,List.length_cons,List.length_nil] at hl;exact List.length_eq_zero_iff.1 (by omega)
   have hyo:y.own=false:=by
    have:(false || (st.getD d .dead).own)=f.ov:=by rw[<- ef];rfl
    rw[fov,hyd,Bool.false_or] at this;exact this
   have hset:∀ {z:List A},z[d]?=some y->zas z d (.bor t)=z.set d (.bor t):=by
    intro z hz;have hzd:z.getD d .dead=y:=by rw[List.getD_eq_getElem?_getD,hz];rfl
    unfold zas;rw[hzd];cases y<;>first|rfl|(simp[A.own] at hyo)
   have horf:∀ {z:List A},z[d]?=some y->ownRef z d=false:=by
    intro z hz;have hzd:z.getD d .dead=y:=by rw[List.getD_eq_getElem?_getD,hz];rfl
    unfold ownRef;rw[zi8,hzd,hyo]
   rw[hset hy0] at es;subst es;obtain⟨st2',g1,g2,g3,g4,g5⟩:=slip hyr htd k st fp0 _ h2 hd hy0 hown (by simpa using c11) (by simpa using c13) (by simpa using c14);refine⟨st2',g1,?_⟩;rw[eo st2' g4];simp only[zm,Cmd.cps];have hok2:zgn E st2' d (.bor t)=true:=by
    unfold zgn;rw[g5,k1];show z20 true (z20 (!(Nat.beq t d)) (z62 st2' t))=true;rw[g4,(za k2).1];rfl
   have hyd2:st2'.getD d .dead=y:=by rw[List.getD_eq_getElem?_getD,g3];rfl
   rw[hok2,hset g3,horf g3,hyd2];rw[horf hy0,hyd] at ef;simp only at g2;rw[g2,<- ef];rfl
 . cases hc
theorem zrw {all:Array Oper} {fps:List FP} {i:Nat}:∀ (l1 l2:List Nat) (st st':List A),RunI E all fps (l1++i::l2) st st'->(∀ j∈l1,zf4 (fps.getD j fp0) (fps.getD i fp0)=false\/∃ o,all[j]?=some o/\zy9 o (fps.getD j fp0) (fps.getD i fp0)=true) →
 RunI E all fps (i::(l1++l2)) st st'
 | [],l2,st,st',h,_=>h
 | j :: l1,l2,st,st',h,hc=>by
   cases h with
   | cons ho h hr =>
     have:=zrw l1 l2 _ _ hr (fun k hk=>hc k (by simp[hk]));cases this with
     | cons ho2 h2 hr2 =>
       rcases hc j (by simp) with hc|⟨o',ho',hc⟩
       . obtain⟨st1',g1,g2⟩:=z1c6 h h2 hc;exact .cons ho2 g1 (.cons ho g2 hr2)
       . rw[ho] at ho';cases ho';obtain⟨st1',g1,g2⟩:=z126 h h2 hc;exact .cons ho2 g1 (.cons ho g2 hr2)
inductive Anc (all:List Oper):Nat->Nat->Prop
 | base {i j:Nat} {o:Oper} (hj:all[j]?=some o) (h:i∈zk5 o):Anc all i j
 | step {i k j:Nat} {o:Oper} (hj:all[j]?=some o) (hk:k∈zk5 o) (h:Anc all i k):Anc all i j
theorem zu7 {acc:List Nat} {i:Nat}:∀ (ks:List Nat) (m:Nat),(ks.foldl (fun m k=>m ||| (2^k ||| acc.getD k 0)) m).testBit i=true->m.testBit i=true\/∃ k∈ks,i=k\/(acc.getD k 0).testBit i=true
 | [],m,h=>.inl h
 | k :: ks,m,h=>by
   rcases zu7 ks _ h with h|⟨k',hk',h⟩
   . rw[Nat.testBit_or,Nat.testBit_or] at h;rcases Bool.or_eq_true _ _ ▸ h with h|h
     . exact .inl h
     . rcases Bool.or_eq_true _ _ ▸ h with h|h
       . rw[Nat.testBit_two_pow] at h;exact .inr ⟨k,by simp,.inl (by have:=of_decide_eq_true h;omega)⟩
       . exact .inr ⟨k,by simp,.inr h⟩
   . exact .inr ⟨k',by simp[hk'],h⟩
theorem zmb (all:List Oper):∀ (l:List Oper) (acc:List Nat),(∃ pre,all=pre++l/\pre.length=acc.length)->(∀ j m i,acc[j]?=some m->m.testBit i=true->Anc all i j) →
 ∀ j m i,(zp2 l acc)[j]?=some m->m.testBit i=true->Anc all i j
 | [],acc,_,h,j,m,i,hj,hm=>h j m i hj hm
 | o :: l,acc,⟨pre,he,hl⟩,h,j,m,i,hj,hm=>by
   refine zmb all l _ ⟨pre++[o],by simp[he],by simp[hl]⟩ ?_ j m i hj hm;intro j m i hj hm;have happ:(acc.append [(zk5 o).foldl (fun m k=>m ||| (2^k ||| acc.getD k 0)) 0])=acc++[(zk5 o).foldl (fun m k=>m ||| (2^k ||| acc.getD k 0)) 0]:=rfl;rw[happ] at hj;by_cases hlt:j<acc.length
   . rw[List.getElem?_append_left hlt] at hj;exact h j m i hj hm
   . rw[List.getElem?_append_right (by omega)] at hj;have hj0:j=acc.length:=by
      rcases Nat.lt_or_ge (j - acc.length) 1 with h'|h'
      . omega
      . rw[List.getElem?_eq_none (by simpa using h')] at hj;cases hj
     subst hj0;simp at hj;subst hj;have ho:all[acc.length]?=some o:=by rw[he,<- hl];simp
     rcases zu7 _ _ hm with h'|⟨k,hk,h'|h'⟩
     . simp at h'
     . subst h';exact .base ho hk
     . refine .step ho hk ?_;cases hk':acc[k]? with
       | none=>simp[List.getD,hk'] at h'
       | some mk=>exact h k mk i hk' (by simpa[List.getD,hk'] using h')
theorem zrp {all:Array Oper}{listed:Array Bool}(hcl:∀ j o,all[j]?=some o->listed.getD j false=true->∀ k∈zk5 o,listed.getD k false=true){i j:Nat}(h:Anc all.toList i j) :
 (∀ o,all[j]?=some o->∀ k∈zk5 o,listed.getD k false=true)->listed.getD i false=true:=by
 induction h with
 | base hj hi=>intro hp;exact hp _ (by rw[<- Array.getElem?_toList];exact hj) _ hi
 | @step k j o hj hk _ ih =>
   intro hp;have hj':all[j]?=some o:=by rw[<- Array.getElem?_toList];exact hj
   exact ih fun o ho k hk'=>hcl _ o ho (hp _ hj' _ hk) k hk'
theorem zi3:∀ {l:List Oper} {i:Nat},zs7 i l=true->∀ j o,l[j]?=some o->∀ k∈zk5 o,k<i+j
 | [],_,_,j,o,hj=>by simp at hj
 | x :: l,i,h,j,o,hj=>by
   obtain⟨h1,h2⟩:=za h;cases j with
   | zero =>
     simp at hj;subst hj;intro k hk;have:=List.all_eq_true.1 h1 k hk;simpa using this
   | succ j =>
     intro k hk;have:=zi3 h2 j o (by simpa using hj) k hk;omega
theorem zu4 {o:Oper}{k:Nat}:k∈zk5 o ↔ ∃ e∈o.after,Region.binds .any e=true/\e.on=k:=by
 simp[zk5,List.mem_map,List.mem_filter,and_assoc]
theorem zi2 {all:Array Oper}{listed:Array Bool}{i:Nat}:i∈Region.ready .any all listed ↔ i<all.size/\listed.getD i true=false/\∃ o,all[i]?=some o/\∀ k∈zk5 o,listed.getD k false=true:=by
 simp only[Region.ready,List.mem_filter,List.mem_range,Bool.and_eq_true,Bool.not_eq_true'];constructor
 . rintro⟨h1,h2,h3⟩;have ho:all[i]?=some all[i]:=Array.getElem?_eq_getElem h1;rw[ho] at h3;refine⟨h1,h2,_,ho,fun k hk=>?_⟩;obtain⟨e,he,hb,rfl⟩:=zu4.1 hk;have h3':(all[i].after.all fun e=>!Region.binds .any e || listed.getD e.on false)=true:=h3;have:=Array.all_eq_true'.1 h3' e he;rw[hb] at this;exact this
 . rintro⟨h1,h2,o,ho,h3⟩;refine⟨h1,h2,?_⟩;rw[ho];simp only[Option.map_some,Option.getD_some];rw[Array.all_eq_true'];intro e he;cases hb:Region.binds .any e with
   | false=>rfl
   | true=>rw[h3 e.on (zu4.2 ⟨e,he,hb,rfl⟩)];rfl
def left (n:Nat)(listed:Array Bool):List Nat:=(List.range n).filter fun i=>!listed.getD i true
theorem zgp {n i:Nat}{listed:Array Bool}:i∈left n listed ↔ i<n/\listed.getD i true=false:=by
 unfold left;rw[List.mem_filter,List.mem_range,Bool.not_eq_true']
theorem zsl {n i:Nat}{listed:Array Bool}(hn:listed.size=n)(hi:i<n)(hl:listed.getD i true=false) :
 ∃ l1 l2,left n listed=l1++i::l2/\left n (listed.setIfInBounds i true)=l1++l2/\∀ j∈l1,j<i:=by
 have hsplit:List.range n=List.range i++i::(List.range' (i+1) (n - i - 1)):=by
  have h1:List.range n=List.range' 0 i++List.range' i (n - i):=by
   rw[List.range_eq_range'];have:=List.range'_append_1 (s:=0) (m:=i) (n:=n - i);rw[Nat.zero_add] at this;rw[this];congr 1;omega
  rw[h1,<- List.range_eq_range'];congr 1;obtain⟨k,hk⟩:∃ k,n - i=k+1:=⟨n - i - 1,by omega⟩
  rw[hk,List.range'_succ];simp
 have hget:∀ j,j≠i->(listed.setIfInBounds i true).getD j true=listed.getD j true:=by
  intro j hj;simp[Array.getD_eq_getD_getElem?,Array.getElem?_setIfInBounds_ne (Ne.symm hj)]
 have hgi:(listed.setIfInBounds i true).getD i true=true:=by
  simp[Array.getD_eq_getD_getElem?]
 refine⟨(List.range i).filter fun j=>!listed.getD j true,(List.range' (i+1) (n - i - 1)).filter fun j=>!listed.getD j true,?_,?_,?_⟩
 . unfold left;rw[hsplit,List.filter_append,List.filter_cons,if_pos (by simp[hl])]
 . unfold left;rw[hsplit,List.filter_append,List.filter_cons,if_neg (by simp[hgi])];congr 1
   . apply List.filter_congr;intro j hj;rw[hget j (by simp at hj;omega)]
   . apply List.filter_congr;intro j hj;rw[hget j (by simp[List.mem_range'] at hj;omega)]
 . intro j hj;simp at hj;exact hj.1
variable {P:Program} {c:Ctx}
theorem zvd {ρ:Option Nat} {all:Array Oper} {Q:Exit->Act->World->Prop} {fps:List FP} {st':List A} (hb:Base P E c) (hok:zrk all.toList fps=true) (hq:∀ a w,Sim c st' a w->Q .normal a w) :
 ∀ (fuel:Nat) (listed:Array Bool) (st:List A) (a:Act) (w:World),listed.size=all.size->(left all.size listed).length<=fuel →
   (∀ j o,all[j]?=some o->listed.getD j false=true->∀ k∈zk5 o,listed.getD k false=true) →
   RunI E all fps (left all.size listed) st st'->Sim c st a w->wpAnyIn (FR ρ) 0 P .any all Q fuel listed a w:=by
 obtain⟨hpo,hpairs⟩:=za hok;have hpred:=zi3 hpo;have hready:∀ listed:Array Bool,listed.size=all.size->Region.ready .any all listed=[]->left all.size listed=[]:=by
  intro listed hsz hr;cases hl:left all.size listed with
  | nil=>rfl
  | cons i l =>
    -- the least one that is left is ready
    exfalso;have himem:i∈left all.size listed:=by rw[hl];simp
    have hi:i<all.size/\listed.getD i true=false:=zgp.1 himem;have hmin:∀ j,j<i->listed.getD j true=true:=by
     intro j hj;obtain⟨l1,l2,h1,_,h3⟩:=zsl hsz hi.1 hi.2;cases l1 with
     | nil =>
       cases hlj:listed.getD j true with
       | true=>rfl
       | false =>
         have hmem:j∈left all.size listed:=zgp.2 ⟨by omega,hlj⟩;obtain⟨m1,m2,g1,_,g3⟩:=zsl hsz (by omega:j<all.size) hlj;rw[h1] at g1;cases m1 with
         | nil=>simp at g1;omega
         | cons y m1=>simp at g1;have:=g3 y (by simp);omega
     | cons x l1 =>
       rw[h1] at hl;simp at hl;have:=h3 x (by simp);omega
    have:i∈Region.ready .any all listed:=by
     refine zi2.2 ⟨hi.1,hi.2,all[i],Array.getElem?_eq_getElem hi.1,fun k hk=>?_⟩;have hki:=hpred i all[i] (by rw[Array.getElem?_toList];exact Array.getElem?_eq_getElem hi.1) k hk;have:=hmin k (by omega);have hks:k<listed.size:=by omega
     simpa[Array.getD_eq_getD_getElem?,hks] using this
    rw[hr] at this;cases this
 intro fuel
 induction fuel with
 | zero =>
   intro listed st a w hsz hlen hcl hrun hs;have hnil:left all.size listed=[]:=List.length_eq_zero_iff.1 (by omega);rw[hnil] at hrun;cases hrun;refine⟨?_,hq a w hs⟩;cases hr:Region.ready .any all listed with
   | nil=>rfl
   | cons i l =>
     exfalso;have hi:=zi2.1 (show i∈Region.ready .any all listed by rw[hr];simp);have:i∈left all.size listed:=zgp.2 ⟨hi.1,hi.2.1⟩;rw[hnil] at this;cases this
 | succ fuel ih =>
   intro listed st a w hsz hlen hcl hrun hs;refine⟨fun hr=>?_,fun i hi=>?_⟩
   . rw[hready listed hsz hr] at hrun;cases hrun;exact hq a w hs
   . obtain⟨hil,hl,o,ho,hp⟩:=zi2.1 hi;obtain⟨l1,l2,h1,h2,h3⟩:=zsl hsz hil hl;rw[h1] at hrun;have hfront:=zrw l1 l2 _ _ hrun (fun j hj=>by
      have hji:=h3 j hj;have hjl:listed.getD j true=false:=by
       have:j∈left all.size listed:=by rw[h1];simp[hj]
       exact (zgp.1 this).2
      have hpr:=List.all_eq_true.1 hpairs i (by simpa using hil);have hpj:=List.all_eq_true.1 hpr j (by simpa using hji);unfold zyo at hpj;split at hpj
      . rename_i hcf;exact .inl hcf
      cases hbit:((zp2 all.toList []).getD i 0).testBit j with
      | true =>
        exfalso;have hanc:Anc all.toList j i:=by
         cases hm:(zp2 all.toList [])[i]? with
         | none=>simp[List.getD,hm] at hbit
         | some m=>exact zmb all.toList all.toList [] ⟨[],rfl,rfl⟩ (fun j m i hj _=>by simp at hj) i m j hm (by simpa[List.getD,hm] using hbit)
        have:=zrp hcl hanc (fun o' ho' k hk=>by rw[ho] at ho';cases ho';exact hp k hk);have hjs:j<listed.size:=by omega
        simp[Array.getD_eq_getD_getElem?,hjs] at this hjl;rw[this] at hjl;cases hjl
      | false =>
        right
        rw[hbit] at hpj;dsimp only at hpj;split at hpj
        . rename_i o' ho';exact⟨o',by rw[<- Array.getElem?_toList];exact ho',hpj⟩
        . cases hpj)
     cases hfront with
     | cons ho2 hx hr =>
       rw[ho] at ho2;cases ho2;have hg:=zg3 hx hb hs;have hnext:∀ a' w',Sim c _ a' w'->wpAnyIn (FR ρ) 0 P .any all Q fuel (listed.setIfInBounds i true) a' w':=fun a' w' hs'=>by
        refine ih _ _ a' w' (by simpa using hsz) (by rw[h2];rw[h1] at hlen;simp at hlen ⊢;omega) ?_ (by rw[h2];exact hr) hs';intro j o' hj hlj k hk;have hset:∀ k,listed.getD k false=true->(listed.setIfInBounds i true).getD k false=true:=by
         intro k hk;by_cases e:i=k
         . subst e;simp[Array.getD_eq_getD_getElem?,show i<listed.size by omega]
         . simpa[Array.getD_eq_getD_getElem?,Array.getElem?_setIfInBounds_ne e] using hk
        by_cases e:i=j
        . subst e;rw[ho] at hj;cases hj;exact hset k (hp k hk)
        . refine hset k (hcl j o' hj ?_ k hk);simpa[Array.getD_eq_getD_getElem?,Array.getElem?_setIfInBounds_ne e] using hlj
       unfold wpOpIn;rw[ho];dsimp only;split
       . rename_i hw;rw[if_pos hw] at hg;exact Oper.wpIn_mono hnext (hg ρ Q)
       . rename_i hw;rw[if_neg hw] at hg;exact⟨fun _ _=>trivial,hnext _ _ hg⟩
theorem zrj {β:Type}{ops:Array Oper}{id:Nat}{K:List A->Option β}{y:β}{st:List A}(hb:Base P E c)(h:zmo E ops ops.toList [] st K=some y) :
 ∃ st',K st'=some y/\∀ (ρ:Option Nat) (Q:Exit->Act->World->Prop) (a:Act) (w:World),Sim c st a w->(∀ a' w',Sim c st' a' w'->Q .normal a' w')->(Code.region id ops true).wpIn (FR ρ) 0 P Q a w:=by
 obtain⟨fps,st',hr,hK,hok⟩:=zux ops.toList [] st K h;refine⟨st',hK,fun ρ Q a w hs hq=>wpIn_region_any hb.env.mixed ?_⟩;have hlen:fps.length=ops.toList.length:=by
  clear h hK hok hs hq;generalize ops.toList=l at hr
  induction hr with
  | nil=>rfl
  | cons _ _ ih=>simp[ih]
 have hi:=zob (k:=0) fps hr (fun j=>by rw[Nat.zero_add,Array.getElem?_toList]) (fun j f hj=>by simp[List.getD,hj]);have hl0:left ops.size (Array.replicate ops.size false)=List.range' 0 ops.toList.length:=by
  unfold left;rw[<- List.range_eq_range',Array.length_toList];apply List.filter_eq_self.2;intro i hi;have:i<ops.size:=by simpa using hi
  simp[Array.getD_eq_getD_getElem?,this]
 refine zvd hb (by simpa using hok) hq ops.size _ st a _ (by simp) (by rw[hl0];simp) ?_ (by rw[hl0];exact hi) ?_
 . intro j o hj hlj;exfalso;rcases Nat.lt_or_ge j ops.size with hlt|hge
   . simp[Array.getD_eq_getD_getElem?,hlt] at hlj
   . simp[Array.getD_eq_getD_getElem?,hge] at hlj
 . obtain⟨S,ob,hs⟩:=hs;exact⟨S,ob,hs.world (Sub.refl _) ⟨hs.frame.size,hs.frame.same,hs.frame.tape,hs.frame.os,hs.frame.output⟩⟩
end
end
end Go.Lift
