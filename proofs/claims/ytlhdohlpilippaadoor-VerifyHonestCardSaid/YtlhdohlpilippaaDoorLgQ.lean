import Derived.Test.YtlhdohlpilippaaDoorLgP
set_option linter.all false
namespace Go.Lift
noncomputable section
section
variable {E:Env}
theorem zpt {α:Type}(k:Cmd α):∀ (st:List A) (fp:FP) (r:α×List A×FP),zn E k st fp=some r->fp.all=true->r.2.2.all=true:=by
 induction k with
 | ret a=>intro st fp r h hf;rw[z3e h];exact hf
 | fail=>intro st fp r h;exact (z6 h).elim
 | get t k ih=>intro st fp r h hf;exact ih _ st _ r h hf
 | set t x k ih =>
   intro st fp r h hf;simp only[zn,Cmd.cps] at h;cases hk:z87 E st t x<;>rw[hk] at h
   . simp at h
   . exact ih _ _ r h (by simp[hf])
 | cont t x k ih =>
   intro st fp r h hf;simp only[zn,Cmd.cps] at h;cases hk:Nat.blt t st.length<;>rw[hk] at h
   . simp at h
   . exact ih _ _ r h (by simp[hf])
 | retire t k ih=>intro st fp r h hf;exact ih _ _ r h (by simp[hf])
 | test b x y ihx ihy =>
   intro st fp r h hf;rcases z5y h with⟨_,h⟩|⟨_,h⟩
   . exact ihx st fp r h hf
   . exact ihy st fp r h hf
 | call f args k ih =>
   intro st fp r h hf;obtain⟨x,_,h⟩:=z5z h;exact ih _ _ st fp r h hf
 | guard d x y z ihx ihy ihz =>
   intro st fp r h hf;simp only[zn,Cmd.cps] at h;split at h
   . rename_i b _;cases b
     . exact ihy _ _ r h hf
     . exact ihx _ _ r h hf
   . exact ihz _ _ r h hf
   . cases h
theorem zqp (x:A):z4n x=x.refs:=by cases x<;>rfl
theorem ze3 {r:Nat}:∀ {st:List A},hasRef r st=false->∀ x∈st,r∉z4n x
 | [],_,x,hx=>by cases hx
 | y :: l,h,x,hx=>by
   simp only[hasRef] at h;split at h
   . cases h
   . rename_i hy;rcases List.mem_cons.1 hx with rfl|hx
     . simpa using hy
     . exact ze3 h x hx
theorem zzf {st:List A}{t:Nat}(h:hasRef t st=false):st.map (zjz t)=st:=by
 apply List.ext_getElem?;intro i;rw[List.getElem?_map];cases hz:st[i]? with
 | none=>rfl
 | some z =>
   simp only[Option.map_some];congr 1;rcases zc8 t z with⟨e,_⟩|⟨_,hc⟩
   . exact e
   . exact absurd (by rw[zqp];exact hc) (ze3 h z (List.mem_of_getElem? hz))
theorem z12m {st:List A}{t:Nat}{y:A}(h:hasRef t st=false):st.map (zv5 t y)=st:=by
 apply List.ext_getElem?;intro i;rw[List.getElem?_map];cases hz:st[i]? with
 | none=>rfl
 | some z =>
   simp only[Option.map_some];congr 1;have hn:=ze3 h z (List.mem_of_getElem? hz);cases z<;>simp only[zv5]<;>simp[z4n] at hn
   . rw[beq_false_of_ne (Ne.symm hn)];rfl
   . rw[beq_false_of_ne (Ne.symm hn)];rfl
   . rw[beq_false_of_ne (Ne.symm hn)];rfl
   . rw[show (List.contains _ t)=false by simpa using hn];rfl
   . rw[beq_false_of_ne (Ne.symm hn)];rfl
   . rw[beq_false_of_ne (Ne.symm hn)];rfl
theorem zl1 {st:List A}{t:Nat}{x:A}(h:ownRef st t=false):z5p st t x=st.set t x:=by
 unfold ownRef at h;split at h
 . unfold z5p;split<;>simp[zzf h]
 rename_i ho
 replace h:=ho
 unfold z4l at h;unfold z5p;split at h
 . cases h
 . cases h
 . cases h
 . cases h
 . cases h
 . cases h
 . rename_i h1 h2 h3 h4 h5 h6;split
   . rename_i t' xs hy;exact absurd hy (h1 _ _)
   . rename_i t' xs hy;exact absurd hy (h2 _ _)
   . rename_i t' xs hy;exact absurd hy (h3 _ _)
   . rename_i hy;exact absurd hy h4
   . rename_i t' xs hy;exact absurd hy (h5 _ _)
   . rename_i xs hy;exact absurd hy (h6 _)
   . rfl
theorem z2h {st st2:List A}{t:Nat}(h:st2[t]?=st[t]?):z4l st2 t=z4l st t:=by
 unfold z4l;have:st2.getD t .dead=st.getD t .dead:=by simp[List.getD,h]
 rw[this]
theorem zen {st st2:List A}{t:Nat}{x:A}(hl:st2.length=st.length)(h:∀ r∈z4n x,st2[r]?=st[r]?):z87 E st2 t x=z87 E st t x:=by
 unfold z87;rw[hl];have:zwj st2 t x=zwj st t x:=by
  cases x<;>simp only[zwj,z4n,List.mem_singleton,List.not_mem_nil,false_implies,implies_true,forall_eq] at h ⊢
  . rw[z2h h]
  . rw[z2h h]
  . rw[z2h h]
  . rename_i f rs;have:∀ r∈rs,(z1i (!(Nat.beq r t)) (z4l st2 r))=(z1i (!(Nat.beq r t)) (z4l st r)):=fun r hr=>by rw[z2h (h r hr)]
    rw[Bool.eq_iff_iff,List.all_eq_true,List.all_eq_true];exact⟨fun g r hr=>by rw[<- this r hr];exact g r hr,fun g r hr=>by rw[this r hr];exact g r hr⟩
  . rw[z2h h]
  . rw[z2h h]
 rw[this]
theorem zb4 {st:List A}{t i:Nat}{x:A}(h:t<st.length):(st.set t x)[i]?=if i=t then some x else st[i]?:=by
 by_cases hi:i=t
 . subst hi;simp[h]
 . rw[if_neg hi,List.getElem?_set_ne (Ne.symm hi)]
def kL:Bool->A->List Nat
 | true,x=>z14e x
 | false,x=>z4n x
theorem zfb {c:Bool}{u:Nat}{x:A}(h:u∈kL c x):u∈z4n x:=by
 cases c
 . exact h
 . cases x<;>simp[kL,z14e] at h
   . simp[z4n,h]
   . simp[z4n,h]
   . simp[z4n,h]
def z8a (c:Bool)(u:Nat)(st:List A)(i:Nat):Prop:=∃ x,st[i]?=some x/\u∈kL c x
theorem z3t {u:Nat}:∀ {st:List A},hasRef u st=true ↔ ∃ i,z8a false u st i
 | []=>by simp[hasRef,z8a]
 | x :: l=>by
   have ih:=z3t (u:=u) (st:=l);have split:(∃ i,z8a false u (x::l) i) ↔ (u∈z4n x\/∃ i,z8a false u l i):=by
    constructor
    . rintro⟨i,y,h,hy⟩;cases i with
      | zero=>simp at h;subst h;exact .inl hy
      | succ i=>exact .inr ⟨i,y,by simpa using h,hy⟩
    . rintro (h|⟨i,y,h,hy⟩)
      . exact⟨0,x,by simp,h⟩
      . exact⟨i+1,y,by simpa using h,hy⟩
   rw[split,<- ih];simp only[hasRef];cases hc:(z4n x).contains u with
   | true=>simp at hc;simp[hc]
   | false=>simp at hc;simp[hc]
theorem z6h {u:Nat}:∀ {st:List A},hasCel u st=true ↔ ∃ i,z8a true u st i
 | []=>by simp[hasCel,z8a]
 | x :: l=>by
   have ih:=z6h (u:=u) (st:=l);have split:(∃ i,z8a true u (x::l) i) ↔ (u∈z14e x\/∃ i,z8a true u l i):=by
    constructor
    . rintro⟨i,y,h,hy⟩;cases i with
      | zero=>simp at h;subst h;exact .inl hy
      | succ i=>exact .inr ⟨i,y,by simpa using h,hy⟩
    . rintro (h|⟨i,y,h,hy⟩)
      . exact⟨0,x,by simp,h⟩
      . exact⟨i+1,y,by simpa using h,hy⟩
   rw[split,<- ih];cases x<;>simp only[hasCel,z14e,List.not_mem_nil,false_or,List.mem_singleton]
   case cel s n p =>
    cases hb:Nat.beq s u with
    | true=>simp[Nat.eq_of_beq_eq_true hb]
    | false =>
      have:¬ u=s:=by intro e;subst e;simp[Nat.beq_refl] at hb
      simp[this]
   case pel s n p v q =>
    cases hb:Nat.beq s u with
    | true=>simp[Nat.eq_of_beq_eq_true hb]
    | false =>
      have:¬ u=s:=by intro e;subst e;simp[Nat.beq_refl] at hb
      simp[this]
   case psl s n p v q lo hi =>
    cases hb:Nat.beq s u with
    | true=>simp[Nat.eq_of_beq_eq_true hb]
    | false =>
      have:¬ u=s:=by intro e;subst e;simp[Nat.beq_refl] at hb
      simp[this]
theorem zji {st:List A} {r:Nat} {x:A} (h:hasCel r st=false):z1j st r x=st.set r x:=by
 unfold z1j;congr 1;apply List.ext_getElem?;intro i;rw[List.getElem?_map];cases hz:st[i]? with
 | none=>rfl
 | some z =>
   simp only[Option.map_some];congr 1;rcases z9f r z with⟨e,_⟩|⟨_,hc,_⟩
   . exact e
   . exfalso;have:∃ i,z8a true r st i:=by
      cases z<;>simp[A.cell] at hc
      . subst hc;exact⟨i,_,hz,by simp[kL,z14e]⟩
      . subst hc;exact⟨i,_,hz,by simp[kL,z14e]⟩
      . subst hc;exact⟨i,_,hz,by simp[kL,z14e]⟩
     rw[z6h.2 this] at h;cases h
theorem z2f {st:List A}{c:Bool}{t u i:Nat}{x:A}(h:t<st.length):z8a c u (st.set t x) i ↔ if i=t then u∈kL c x else z8a c u st i:=by
 unfold z8a;rw[zb4 h];split
 . simp
 . rfl
theorem zil {st:List A}{c:Bool}{u t:Nat}(h:z8a c u st t):u∈z4n (st.getD t .dead):=by
 obtain⟨x,h,hx⟩:=h;have:st.getD t .dead=x:=by simp[List.getD,h]
 rw[this];exact zfb hx
theorem zfx {st:List A}{t:Nat}(h:hasRef t st=false):z97 st t=match zxn (st.getD t .dead) with
 | some y=>st.set t y
 | none=>st:=by
 unfold z97;split<;>simp_all [z12m h]
theorem zyi {x y:A}(h:zxn x=some y):z4n y=[]/\z4n x=[]:=by
 cases x<;>simp[zxn] at h
 . subst h;exact⟨rfl,rfl⟩
 . split at h
   . cases h;exact⟨rfl,rfl⟩
   . cases h
 . unfold zyk at h;split at h
   . cases h;exact⟨rfl,rfl⟩
   . cases h
   . split at h
     . cases h;exact⟨rfl,rfl⟩
     . cases h
theorem frame {α:Type} (k:Cmd α):∀ (st:List A) (fp:FP) (r:α×List A×FP),zn E k st fp=some r->r.2.2.all=false →
 (∀ t∈fp.rd,t∈r.2.2.rd)/\(∀ t∈fp.wr,t∈r.2.2.wr)/\r.2.1.length=st.length/\(∀ t,t∉r.2.2.wr->r.2.1[t]?=st[t]?)/\(∀ t,t∉r.2.2.rd->∀ c i,z8a c t r.2.1 i ↔ z8a c t st i) ∧
 ∀ st2:List A,st2.length=st.length->(∀ t,t∈r.2.2.rd\/t∈fp.wr->st2[t]?=st[t]?)->(∀ t∈r.2.2.wr,∀ c i,z8a c t st2 i ↔ z8a c t st i) →
   ∃ st2',zn E k st2 fp=some (r.1,st2',r.2.2)/\st2'.length=st.length/\(∀ t∈r.2.2.wr,st2'[t]?=r.2.1[t]?)/\(∀ t,t∉r.2.2.wr->st2'[t]?=st2[t]?):=by
 induction k with
 | ret a =>
   intro st fp r h _;rw[z3e h];exact⟨fun _ h=>h,fun _ h=>h,rfl,fun _ _=>rfl,fun _ _ _ _=>.rfl,fun st2 hl hag _=>⟨st2,rfl,hl,fun t ht=>hag t (.inr ht),fun _ _=>rfl⟩⟩
 | fail=>intro st fp r h;exact (z6 h).elim
 | get t k ih =>
   intro st fp r h ha;obtain⟨h1,h2,h3,h4,h6,h5⟩:=ih _ st _ r h ha;refine⟨fun u hu=>h1 u (by simp[hu]),h2,h3,h4,h6,fun st2 hl hag hce=>?_⟩;obtain⟨st2',g1,g2,g3,g4⟩:=h5 st2 hl hag hce;refine⟨st2',?_,g2,g3,g4⟩;have:st2.getD t .dead=st.getD t .dead:=by
    have:=hag t (.inl (h1 t (by simp)));simp[List.getD,this]
   show zn E (k (st2.getD t .dead)) st2 _=_;rw[this];exact g1
 | set t x k ih =>
   intro st fp r h ha;simp only[zn,Cmd.cps] at h;cases hk:z87 E st t x<;>rw[hk] at h
   . simp at h
   simp only[cond] at h;obtain⟨hlt,_,_⟩:=z2i hk;have hown:ownRef st t=false:=by
    cases ho:ownRef st t with
    | false=>rfl
    | true =>
      have:=zpt k _ _ r h (by simp[ho]);rw[ha] at this;cases this
   rw[hown] at h;rw[zl1 hown] at h;obtain⟨h1,h2,h3,h4,h6,h5⟩:=ih (st.set t x) _ r h ha;have hr1:∀ u∈z4n x,u∈r.2.2.rd:=fun u hu=>h1 u (List.mem_append.2 (.inl hu))
   have hr2:∀ u∈z4n (st.getD t .dead),u∈r.2.2.rd:=fun u hu=>h1 u (List.mem_append.2 (.inr (List.mem_append.2 (.inl hu))))
   have hr3:t∈r.2.2.rd:=h1 t (List.mem_append.2 (.inr (List.mem_append.2 (.inr (by simp)))));have hr4:∀ u∈fp.rd,u∈r.2.2.rd:=fun u hu=>h1 u (List.mem_append.2 (.inr (List.mem_append.2 (.inr (by simp[hu])))))
   refine⟨hr4,fun u hu=>h2 u (by simp[hu]),by simpa using h3,fun u hu=>?_,fun u hu c i=>?_,fun st2 hl hag hce=>?_⟩
   . rw[h4 u hu,zb4 hlt,if_neg];intro e;subst e;exact hu (h2 _ (by simp))
   . rw[h6 u hu c i,z2f hlt];split
     . rename_i e;subst e;constructor
       . intro e;exact absurd (hr1 u (zfb e)) hu
       . intro hc;exact absurd (hr2 u (zil hc)) hu
     . rfl
   . have href:∀ s∈z4n x,st2[s]?=st[s]?:=fun s hs=>hag s (.inl (hr1 s hs))
     have hlt2:t<st2.length:=by omega
     have hagt:st2[t]?=st[t]?:=hag t (.inl hr3);have hgd:st2.getD t .dead=st.getD t .dead:=by simp[List.getD,hagt]
     have htw:t∈r.2.2.wr:=h2 t (by simp);have ho2:ownRef st2 t=false:=by
      unfold ownRef at hown ⊢;rw[z2h hagt];cases ho:z4l st t with
      | false=>rfl
      | true =>
        rw[ho] at hown;dsimp only at hown ⊢;cases hr:hasRef t st2 with
        | false=>rfl
        | true =>
          obtain⟨i,hi⟩:=z3t.1 hr;rw[z3t.2 ⟨i,(hce t htw false i).1 hi⟩] at hown;cases hown
     obtain⟨st2',g1,g2,g3,g4⟩:=h5 (st2.set t x) (by simp[hl]) (fun u hu=>by
      rw[zb4 hlt2,zb4 hlt];by_cases e:u=t
      . rw[if_pos e,if_pos e]
      . rw[if_neg e,if_neg e];rcases hu with hu|hu
        . exact hag u (.inl hu)
        . rcases List.mem_cons.1 hu with hu|hu
          . exact absurd hu e
          . exact hag u (.inr hu)) (fun u hu c i=>by
      rw[z2f hlt2,z2f hlt];split
      . rfl
      . exact hce u hu c i)
     refine⟨st2',?_,by simpa using g2,g3,fun u hu=>?_⟩
     . simp only[zn,Cmd.cps];rw[zen hl href,hk,zl1 ho2,ho2,hgd];exact g1
     . rw[g4 u hu,zb4 hlt2,if_neg];intro e;subst e;exact hu (h2 _ (by simp))
 | cont t x k ih =>
   intro st fp r h ha;simp only[zn,Cmd.cps] at h;cases hk:Nat.blt t st.length<;>rw[hk] at h
   . simp at h
   simp only[cond] at h;have hlt:t<st.length:=by simpa using hk
   have hnc:hasCel t st=false:=by
    cases ho:hasCel t st with
    | false=>rfl
    | true =>
      have:=zpt k _ _ r h (by simp[ho]);rw[ha] at this;cases this
   rw[zji hnc,hnc] at h;obtain⟨h1,h2,h3,h4,h6,h5⟩:=ih (st.set t x) _ r h ha;have hr1:∀ u∈z4n x,u∈r.2.2.rd:=fun u hu=>h1 u (List.mem_append.2 (.inl hu))
   have hr2:∀ u∈z4n (st.getD t .dead),u∈r.2.2.rd:=fun u hu=>h1 u (List.mem_append.2 (.inr (List.mem_append.2 (.inl hu))))
   have hr3:t∈r.2.2.rd:=h1 t (List.mem_append.2 (.inr (List.mem_append.2 (.inr (by simp)))));have hr4:∀ u∈fp.rd,u∈r.2.2.rd:=fun u hu=>h1 u (List.mem_append.2 (.inr (List.mem_append.2 (.inr (by simp[hu])))))
   refine⟨hr4,fun u hu=>h2 u (by simp[hu]),by simpa using h3,fun u hu=>?_,fun u hu c i=>?_,fun st2 hl hag hce=>?_⟩
   . rw[h4 u hu,zb4 hlt,if_neg];intro e;subst e;exact hu (h2 _ (by simp))
   . rw[h6 u hu c i,z2f hlt];split
     . rename_i e;subst e;constructor
       . intro e;exact absurd (hr1 u (zfb e)) hu
       . intro hc;exact absurd (hr2 u (zil hc)) hu
     . rfl
   . have hlt2:t<st2.length:=by omega
     have htw:t∈r.2.2.wr:=h2 t (by simp);have hnc2:hasCel t st2=false:=by
      cases ho:hasCel t st2 with
      | false=>rfl
      | true =>
        obtain⟨i,hi⟩:=z6h.1 ho;rw[z6h.2 ⟨i,(hce t htw true i).1 hi⟩] at hnc;cases hnc
     have hagt:st2[t]?=st[t]?:=hag t (.inl hr3);have hgd:st2.getD t .dead=st.getD t .dead:=by simp[List.getD,hagt]
     obtain⟨st2',g1,g2,g3,g4⟩:=h5 (st2.set t x) (by simp[hl]) (fun u hu=>by
      rw[zb4 hlt2,zb4 hlt];by_cases e:u=t
      . rw[if_pos e,if_pos e]
      . rw[if_neg e,if_neg e];rcases hu with hu|hu
        . exact hag u (.inl hu)
        . rcases List.mem_cons.1 hu with hu|hu
          . exact absurd hu e
          . exact hag u (.inr hu)) (fun u hu c i=>by
      rw[z2f hlt2,z2f hlt];split
      . rfl
      . exact hce u hu c i)
     refine⟨st2',?_,by simpa using g2,g3,fun u hu=>?_⟩
     . simp only[zn,Cmd.cps];rw[hl,hk,zji hnc2,hnc2,hgd];exact g1
     . rw[g4 u hu,zb4 hlt2,if_neg];intro e;subst e;exact hu (h2 _ (by simp))
 | retire t k ih =>
   intro st fp r h ha;simp only[zn,Cmd.cps] at h;have hnr:hasRef t st=false:=by
    cases ho:hasRef t st with
    | false=>rfl
    | true =>
      have:=zpt k _ _ r h (by simp[ho]);rw[ha] at this;cases this
   rw[hnr,zfx hnr] at h;cases hv:zxn (st.getD t .dead) with
   | none =>
     rw[hv] at h;obtain⟨h1,h2,h3,h4,h6,h5⟩:=ih st _ r h ha;have hr3:t∈r.2.2.rd:=h1 t (by simp);refine⟨fun u hu=>h1 u (by simp[hu]),fun u hu=>h2 u (by simp[hu]),h3,h4,h6,fun st2 hl hag hce=>?_⟩;have htw:t∈r.2.2.wr:=h2 t (by simp);have hnr2:hasRef t st2=false:=by
      cases ho:hasRef t st2 with
      | false=>rfl
      | true =>
        obtain⟨i,hi⟩:=z3t.1 ho;rw[z3t.2 ⟨i,(hce t htw false i).1 hi⟩] at hnr;cases hnr
     have hagt:st2[t]?=st[t]?:=hag t (.inl hr3);have hgd:st2.getD t .dead=st.getD t .dead:=by simp[List.getD,hagt]
     obtain⟨st2',g1,g2,g3,g4⟩:=h5 st2 hl (fun u hu=>by
      rcases hu with hu|hu
      . exact hag u (.inl hu)
      . rcases List.mem_cons.1 hu with rfl|hu
        . exact hagt
        . exact hag u (.inr hu)) hce
     refine⟨st2',?_,g2,g3,g4⟩;simp only[zn,Cmd.cps];rw[hnr2,zfx hnr2,hgd,hv];exact g1
   | some y =>
     rw[hv] at h;dsimp only at h;obtain⟨hy1,hy2⟩:=zyi hv;have hlt:t<st.length:=by
      rcases Nat.lt_or_ge t st.length with h'|h'
      . exact h'
      . rw[List.getD_eq_getElem?_getD,List.getElem?_eq_none h'] at hv;simp[zxn] at hv
     obtain⟨h1,h2,h3,h4,h6,h5⟩:=ih (st.set t y) _ r h ha;have hr3:t∈r.2.2.rd:=h1 t (by simp);refine⟨fun u hu=>h1 u (by simp[hu]),fun u hu=>h2 u (by simp[hu]),by simpa using h3,fun u hu=>?_,fun u hu c i=>?_,fun st2 hl hag hce=>?_⟩
     . rw[h4 u hu,zb4 hlt,if_neg];intro e;subst e;exact hu (h2 _ (by simp))
     . rw[h6 u hu c i,z2f hlt];split
       . rename_i e;subst e;constructor
         . intro e;have:=zfb e;rw[hy1] at this;cases this
         . intro hc;have:=zil hc;rw[hy2] at this;cases this
       . rfl
     . have hlt2:t<st2.length:=by omega
       have htw:t∈r.2.2.wr:=h2 t (by simp);have hnr2:hasRef t st2=false:=by
        cases ho:hasRef t st2 with
        | false=>rfl
        | true =>
          obtain⟨i,hi⟩:=z3t.1 ho;rw[z3t.2 ⟨i,(hce t htw false i).1 hi⟩] at hnr;cases hnr
       have hagt:st2[t]?=st[t]?:=hag t (.inl hr3);have hgd:st2.getD t .dead=st.getD t .dead:=by simp[List.getD,hagt]
       obtain⟨st2',g1,g2,g3,g4⟩:=h5 (st2.set t y) (by simp[hl]) (fun u hu=>by
        rw[zb4 hlt2,zb4 hlt];by_cases e:u=t
        . rw[if_pos e,if_pos e]
        . rw[if_neg e,if_neg e];rcases hu with hu|hu
          . exact hag u (.inl hu)
          . rcases List.mem_cons.1 hu with hu|hu
            . exact absurd hu e
            . exact hag u (.inr hu)) (fun u hu c i=>by
        rw[z2f hlt2,z2f hlt];split
        . rfl
        . exact hce u hu c i)
       refine⟨st2',?_,by simpa using g2,g3,fun u hu=>?_⟩
       . simp only[zn,Cmd.cps];rw[hnr2,zfx hnr2,hgd,hv];exact g1
       . rw[g4 u hu,zb4 hlt2,if_neg];intro e;subst e;exact hu (h2 _ (by simp))
 | test b x y ihx ihy =>
   intro st fp r h ha;cases b with
   | true=>exact ihx st fp r h ha
   | false=>exact ihy st fp r h ha
 | call f args k ih =>
   intro st fp r h ha;obtain⟨x,hv,h⟩:=z5z h;obtain⟨h1,h2,h3,h4,h6,h5⟩:=ih _ _ st fp r h ha;refine⟨h1,h2,h3,h4,h6,fun st2 hl hag hce=>?_⟩;obtain⟨st2',g1,g2,g3,g4⟩:=h5 st2 hl hag hce;refine⟨st2',?_,g2,g3,g4⟩;simp only[zn,Cmd.cps,hv,Option.bind_some];exact g1
 | guard d x y z ihx ihy ihz =>
   intro st fp r h ha;simp only[zn,Cmd.cps] at h;have key:∀ (k:Cmd α) (ih:∀ (st:List A) (fp:FP) (r:α×List A×FP),zn E k st fp=some r->r.2.2.all=false →
    (∀ t∈fp.rd,t∈r.2.2.rd)/\(∀ t∈fp.wr,t∈r.2.2.wr)/\r.2.1.length=st.length/\(∀ t,t∉r.2.2.wr->r.2.1[t]?=st[t]?)/\(∀ t,t∉r.2.2.rd->∀ c i,z8a c t r.2.1 i ↔ z8a c t st i) ∧
    ∀ st2:List A,st2.length=st.length->(∀ t,t∈r.2.2.rd\/t∈fp.wr->st2[t]?=st[t]?)->(∀ t∈r.2.2.wr,∀ c i,z8a c t st2 i ↔ z8a c t st i) →
      ∃ st2',zn E k st2 fp=some (r.1,st2',r.2.2)/\st2'.length=st.length/\(∀ t∈r.2.2.wr,st2'[t]?=r.2.1[t]?)/\(∀ t,t∉r.2.2.wr->st2'[t]?=st2[t]?)),
    zn E k st { fp with rd:=d::fp.rd }=some r->(∀ st2:List A,st2.getD d .dead=st.getD d .dead->zn E (.guard d x y z) st2 fp=zn E k st2 { fp with rd:=d::fp.rd }) →
    (∀ t∈fp.rd,t∈r.2.2.rd)/\(∀ t∈fp.wr,t∈r.2.2.wr)/\r.2.1.length=st.length/\(∀ t,t∉r.2.2.wr->r.2.1[t]?=st[t]?)/\(∀ t,t∉r.2.2.rd->∀ c i,z8a c t r.2.1 i ↔ z8a c t st i) ∧
    ∀ st2:List A,st2.length=st.length->(∀ t,t∈r.2.2.rd\/t∈fp.wr->st2[t]?=st[t]?)->(∀ t∈r.2.2.wr,∀ c i,z8a c t st2 i ↔ z8a c t st i) →
      ∃ st2',zn E (.guard d x y z) st2 fp=some (r.1,st2',r.2.2)/\st2'.length=st.length/\(∀ t∈r.2.2.wr,st2'[t]?=r.2.1[t]?)/\(∀ t,t∉r.2.2.wr->st2'[t]?=st2[t]?):=by
    intro k ih hk hsame;obtain⟨h1,h2,h3,h4,h6,h5⟩:=ih st _ r hk ha;refine⟨fun u hu=>h1 u (by simp[hu]),h2,h3,h4,h6,fun st2 hl hag hce=>?_⟩;obtain⟨st2',g1,g2,g3,g4⟩:=h5 st2 hl hag hce;refine⟨st2',?_,g2,g3,g4⟩;have:st2.getD d .dead=st.getD d .dead:=by
     have:=hag d (.inl (h1 d (by simp)));simp[List.getD,this]
    rw[hsame st2 this];exact g1
   split at h
   . rename_i b hb;cases b
     . simp only[cond] at h;rw[zbu hb (by simp)] at h;refine key y ihy h fun st2 hst=>?_
       rw[hb] at hst;simp only[zn,Cmd.cps,hst,cond,zbu hst (by simp)]
     . simp only[cond] at h;rw[zbu hb (by simp)] at h;refine key x ihx h fun st2 hst=>?_
       rw[hb] at hst;simp only[zn,Cmd.cps,hst,cond,zbu hst (by simp)]
   . rename_i hb;refine key z ihz h fun st2 hst=>?_
     rw[hb] at hst;simp only[zn,Cmd.cps,hst]
   . cases h
theorem z9e:∀ {l m:List Nat},meets l m=false->∀ t∈l,t∉m
 | [],_,_,t,ht=>by cases ht
 | x :: l,m,h,t,ht=>by
   simp only[meets] at h;split at h
   . cases h
   . rename_i hx;rcases List.mem_cons.1 ht with rfl|ht
     . simpa using hx
     . exact z9e h t ht
theorem zn7 {f g:FP}(h:zhd f g=false):f.all=false/\g.all=false/\(∀ t∈f.wr,t∉g.rd)/\(∀ t∈f.wr,t∉g.wr)/\(∀ t∈g.wr,t∉f.rd):=by
 simp only[zhd,Bool.or_eq_false_iff] at h;exact⟨h.1,h.2.1,z9e h.2.2.1,z9e h.2.2.2.1,z9e h.2.2.2.2⟩
theorem z18l {α:Type}{k1 k2:Cmd α}{x1 x2:α}{st st1 st2:List A}{f1 f2:FP}(h1:zn E k1 st fp0=some (x1,st1,f1))(h2:zn E k2 st1 fp0=some (x2,st2,f2))(hc:zhd f1 f2=false) :
 ∃ st1',zn E k2 st fp0=some (x2,st1',f2)/\zn E k1 st1' fp0=some (x1,st2,f1):=by
 obtain⟨a1,a2,c1,c2,c3⟩:=zn7 hc;obtain⟨_,_,l1,s1,q1,fr1⟩:=frame k1 st fp0 _ h1 a1;obtain⟨_,_,l2,s2,q2,fr2⟩:=frame k2 st1 fp0 _ h2 a2;dsimp only at l1 s1 q1 fr1 l2 s2 q2 fr2;obtain⟨st1',g1,g2,g3,g4⟩:=fr2 st l1.symm (fun t ht=>by
  rcases ht with ht|ht
  . exact (s1 t (fun hw=>c1 t hw ht)).symm
  . cases ht) (fun t ht c i=>(q1 t (c3 t ht) c i).symm)
 obtain⟨_,_,_,_,q3,_⟩:=frame k2 st fp0 _ g1 a2;dsimp only at q3;obtain⟨st2',k1',k2',k3,k4⟩:=fr1 st1' (by omega) (fun t ht=>by
  rcases ht with ht|ht
  . exact g4 t (fun hw=>c3 t hw ht)
  . cases ht) (fun t ht c i=>q3 t (c1 t ht) c i)
 refine⟨st1',g1,?_⟩;have:st2'=st2:=by
  apply List.ext_getElem?;intro t;by_cases ht1:t∈f1.wr
  . rw[k3 t ht1,s2 t (c2 t ht1)]
  . rw[k4 t ht1];by_cases ht2:t∈f2.wr
    . exact g3 t ht2
    . rw[g4 t ht2,s2 t ht2,s1 t ht1]
 rw[this] at k1';exact k1'
inductive RunI (E:Env) (all:Array Oper) (fps:List FP):List Nat->List A->List A->Prop
 | nil {st:List A}:RunI E all fps [] st st
 | cons {i:Nat} {o:Oper} {l:List Nat} {st st1 st2:List A} (ho:all[i]?=some o) (h:zn E (z48 E all o) st fp0=some ((),st1,fps.getD i fp0)) (hr:RunI E all fps l st1 st2):RunI E all fps (i::l) st st2
theorem zqj {all:Array Oper}:∀ {l:List Oper} {fs:List FP} {st st':List A} (k:Nat) (fps:List FP),Run E all l fs st st'->(∀ j,l[j]?=all[k+j]?)->(∀ j f,fs[j]?=some f->fps.getD (k+j) fp0=f) →
 RunI E all fps (List.range' k l.length) st st'
 | [],_,_,_,k,fps,.nil,_,_=>.nil
 | o::l,f::fs,st,st',k,fps,.cons h hr,hl,hf=>by
   rw[List.length_cons,List.range'_succ];have h0:fps.getD k fp0=f:=by simpa using hf 0 f rfl
   refine .cons (by simpa using (hl 0).symm) (by rw[h0];exact h) (zqj (k+1) fps hr (fun j=>?_) (fun j g hj=>?_))
   . have:=hl (j+1);simpa[Nat.add_assoc,Nat.add_comm 1 j] using this
   . have:=hf (j+1) g (by simpa using hj);simpa[Nat.add_assoc,Nat.add_comm 1 j] using this
theorem z3f {α:Type}(k:Cmd α):∀ (st:List A) (fp:FP) (r:α×List A×FP),zn E k st fp=some r->(∀ u∈fp.rd,u∈r.2.2.rd)/\(∀ u∈fp.wr,u∈r.2.2.wr)/\(∀ u∈fp.ow,u∈r.2.2.ow):=by
 induction k with
 | ret a=>intro st fp r h;rw[z3e h];exact⟨fun _ h=>h,fun _ h=>h,fun _ h=>h⟩
 | fail=>intro st fp r h;exact (z6 h).elim
 | get t k ih =>
   intro st fp r h;obtain⟨h1,h2,h3⟩:=ih _ st _ r h;exact⟨fun u hu=>h1 u (by simp[hu]),h2,h3⟩
 | set t x k ih =>
   intro st fp r h;simp only[zn,Cmd.cps] at h;cases hk:z87 E st t x<;>rw[hk] at h
   . simp at h
   obtain⟨h1,h2,h3⟩:=ih _ _ r h;exact⟨fun u hu=>h1 u (List.mem_append.2 (.inr (List.mem_append.2 (.inr (by simp[hu]))))),fun u hu=>h2 u (by simp[hu]),fun u hu=>h3 u (by simp[hu])⟩
 | cont t x k ih =>
   intro st fp r h;simp only[zn,Cmd.cps] at h;cases hk:Nat.blt t st.length<;>rw[hk] at h
   . simp at h
   obtain⟨h1,h2,h3⟩:=ih _ _ r h;exact⟨fun u hu=>h1 u (List.mem_append.2 (.inr (List.mem_append.2 (.inr (by simp[hu]))))),fun u hu=>h2 u (by simp[hu]),fun u hu=>h3 u (by cases x.own<;>simp[hu])⟩
 | retire t k ih =>
   intro st fp r h;obtain⟨h1,h2,h3⟩:=ih _ _ r h;exact⟨fun u hu=>h1 u (by simp[hu]),fun u hu=>h2 u (by simp[hu]),fun u hu=>h3 u (by simp[hu])⟩
 | test b x y ihx ihy =>
   intro st fp r h;rcases z5y h with⟨_,h⟩|⟨_,h⟩
   . exact ihx st fp r h
   . exact ihy st fp r h
 | call f args k ih =>
   intro st fp r h;obtain⟨x,_,h⟩:=z5z h;exact ih _ _ st fp r h
 | guard d x y z ihx ihy ihz =>
   intro st fp r h;simp only[zn,Cmd.cps] at h;split at h
   . rename_i b _;cases b
     . obtain⟨h1,h2,h3⟩:=ihy _ _ r h;exact⟨fun u hu=>h1 u (by simp[hu]),h2,h3⟩
     . obtain⟨h1,h2,h3⟩:=ihx _ _ r h;exact⟨fun u hu=>h1 u (by simp[hu]),h2,h3⟩
   . obtain⟨h1,h2,h3⟩:=ihz _ _ r h;exact⟨fun u hu=>h1 u (by simp[hu]),h2,h3⟩
   . cases h
theorem z8q {α:Type}{u:Nat}{x y z:Cmd α}{st:List A}{fp:FP}{r:α×List A×FP}(h:zn E (.guard u x y z) st fp=some r):u∈r.2.2.rd:=by
 simp only[zn,Cmd.cps] at h;split at h
 . rename_i b _;cases b
   . exact (z3f _ _ _ r h).1 u (by simp)
   . exact (z3f _ _ _ r h).1 u (by simp)
 . exact (z3f _ _ _ r h).1 u (by simp)
 . cases h
theorem zm1 {st:List A}{d t u:Nat}{y:A}(hd:d<st.length)(hy0:st[d]?=some y)(hy:z4n y=[])(hu:u≠t):hasRef u (st.set d (.bor t))=hasRef u st:=by
 rw[Bool.eq_iff_iff,z3t,z3t];constructor
 . rintro⟨i,h⟩;rw[z2f hd] at h;split at h
   . simp[kL,z4n] at h;exact absurd h hu
   . exact⟨i,h⟩
 . rintro⟨i,h⟩;refine⟨i,(z2f hd).2 ?_⟩;split
   . rename_i e;subst e;obtain⟨z,h1,h2⟩:=h;rw[hy0] at h1;cases h1;have:=zfb h2;rw[hy] at this;cases this
   . exact h
theorem ztd {st:List A}{d t u:Nat}{y:A}(hd:d<st.length)(hy0:st[d]?=some y)(hy:z4n y=[]):hasCel u (st.set d (.bor t))=hasCel u st:=by
 rw[Bool.eq_iff_iff,z6h,z6h];constructor
 . rintro⟨i,h⟩;rw[z2f hd] at h;split at h
   . simp[kL,z14e] at h
   . exact⟨i,h⟩
 . rintro⟨i,h⟩;refine⟨i,(z2f hd).2 ?_⟩;split
   . rename_i e;subst e;obtain⟨z,h1,h2⟩:=h;rw[hy0] at h1;cases h1;have:=zfb h2;rw[hy] at this;cases this
   . exact h
theorem z3d {st:List A}{d u:Nat}{x:A}(h:u≠d):(st.set d x).getD u .dead=st.getD u .dead:=by
 rw[List.getD_eq_getElem?_getD,List.getD_eq_getElem?_getD,List.getElem?_set_ne (Ne.symm h)]
theorem zsv {st:List A}{d t u:Nat}{y:A}(hd:d<st.length)(hy0:st[d]?=some y)(hy:z4n y=[])(hu:u≠t)(hud:u≠d):ownRef (st.set d (.bor t)) u=ownRef st u:=by
 unfold ownRef;rw[z2h (List.getElem?_set_ne (Ne.symm hud)),zm1 hd hy0 hy hu]
theorem zb8 {st:List A}{t:Nat}:z4l st t=(st.getD t .dead).own:=by
 unfold z4l;cases st.getD t .dead<;>rfl
theorem z12b {x:A}(h:x.own=true):x.refs=[]:=by cases x<;>simp_all [A.own,A.refs]
theorem zzp {u:Nat}{x:A}(h:x.own=true):zjz u x=x:=by
 rcases zc8 u x with⟨e,_⟩|⟨_,hc⟩
 . exact e
 . rw[z12b h] at hc;cases hc
theorem zww {u:Nat}{x:A}(h:x.own=true):zh1 u x=x:=by
 cases x<;>simp_all [A.own,zh1]
theorem z123 {u:Nat}{y x:A}(h:x.own=true):zv5 u y x=x:=by
 cases x<;>simp_all [A.own,zv5]
theorem zic {u:Nat}{x:A}(h:z4n x=[]):zjz u x=x:=by
 rcases zc8 u x with⟨e,_⟩|⟨_,hc⟩
 . exact e
 . rw[<- zqp,h] at hc;cases hc
theorem zib {u:Nat}{x:A}(h:z4n x=[]):zh1 u x=x:=by
 cases x<;>simp_all [z4n,zh1]
theorem zl9 {u:Nat}{y x:A}(h:z4n x=[]):zv5 u y x=x:=by
 cases x<;>simp_all [z4n,zv5]
theorem zoz (f:A->A){st:List A}{d t:Nat}{y:A}(hd:d<st.length)(hy0:st[d]?=some y)(hfy:f y=y)(hft:f (.bor t)=.bor t)(htd:t≠d)(ho:z4l st t=true)(hfo:∀ x:A,x.own=true->f x=x) :
 (st.set d (.bor t)).map f=(st.map f).set d (.bor t)/\(st.map f)[d]?=some y/\z4l (st.map f) t=true:=by
 refine⟨by rw[List.map_set,hft],by rw[List.getElem?_map,hy0,Option.map_some,hfy],?_⟩;rw[zb8] at ho ⊢;have h1:(st.map f).getD t .dead=st.getD t .dead:=by
  rw[List.getD_eq_getElem?_getD,List.getD_eq_getElem?_getD,List.getElem?_map];rw[List.getD_eq_getElem?_getD] at ho;cases hz:st[t]? with
  | none=>rw[hz] at ho;cases ho
  | some z =>
    rw[hz] at ho;simp only[Option.map_some,Option.getD_some] at ho ⊢;exact hfo z ho
 rw[h1];exact ho
theorem zzq {u t:Nat}(h:u≠t):zjz u (.bor t)=.bor t:=by
 simp only[zjz];rw[beq_false_of_ne (Ne.symm h)];rfl
theorem z124 {u t:Nat}{y:A}(h:u≠t):zv5 u y (.bor t)=.bor t:=by
 simp only[zv5];rw[beq_false_of_ne (Ne.symm h)];rfl
theorem zwf {st:List A}{d t u:Nat}{x y:A}(hd:d<st.length)(hy0:st[d]?=some y)(hy:z4n y=[])(htd:t≠d)(ho:z4l st t=true)(hu:u≠t)(hud:u≠d) :
 z5p (st.set d (.bor t)) u x=(z5p st u x).set d (.bor t)/\(z5p st u x)[d]?=some y/\z4l (z5p st u x) t=true:=by
 obtain⟨m1,m2,m3⟩:=zoz (zjz u) hd hy0 (zic hy) (zzq hu) htd ho (fun _ h=>zzp h);unfold z5p;rw[z3d hud];split
 all_goals
  refine⟨?_,?_,?_⟩
  first
   | rw[m1,List.set_comm _ _ (Ne.symm hud)]
   | rw[List.set_comm _ _ (Ne.symm hud)]
  first
   | (rw[List.getElem?_set_ne hud];exact m2)
   | (rw[List.getElem?_set_ne hud];exact hy0)
  first
   | (rw[z2h (List.getElem?_set_ne hu)];exact m3)
   | (rw[z2h (List.getElem?_set_ne hu)];exact ho)
theorem ztn {st:List A}{d t u:Nat}{x y:A}(hd:d<st.length)(hy0:st[d]?=some y)(hy:z4n y=[])(htd:t≠d)(ho:z4l st t=true)(hu:u=t->x.own=true)(hul:u<st.length)(hud:u≠d) :
 z1j (st.set d (.bor t)) u x=(z1j st u x).set d (.bor t)/\(z1j st u x)[d]?=some y/\z4l (z1j st u x) t=true:=by
 obtain⟨m1,m2,m3⟩:=zoz (zh1 u) hd hy0 (zib hy) rfl htd ho (fun _ h=>zww h);unfold z1j;refine⟨by rw[m1,List.set_comm _ _ (Ne.symm hud)],by rw[List.getElem?_set_ne hud];exact m2,?_⟩;by_cases e:u=t
 . subst e;rw[zb8,List.getD_eq_getElem?_getD,List.getElem?_set_self (by simpa using hul)];exact hu rfl
 . rw[z2h (List.getElem?_set_ne e)];exact m3
theorem zwg {st:List A}{d t u:Nat}{y:A}(hd:d<st.length)(hy0:st[d]?=some y)(hy:z4n y=[])(htd:t≠d)(ho:z4l st t=true)(hu:u≠t)(hud:u≠d) :
 z97 (st.set d (.bor t)) u=(z97 st u).set d (.bor t)/\(z97 st u)[d]?=some y/\z4l (z97 st u) t=true:=by
 unfold z97;rw[z3d hud];split
 . rename_i z _;obtain⟨m1,m2,m3⟩:=zoz (zv5 u z) hd hy0 (zl9 hy) (z124 hu) htd ho (fun _ h=>z123 h);exact⟨by rw[m1,List.set_comm _ _ (Ne.symm hud)],by rw[List.getElem?_set_ne hud];exact m2,by rw[z2h (List.getElem?_set_ne hu)];exact m3⟩
 . exact⟨rfl,hy0,ho⟩
theorem slip {α:Type} {d t:Nat} {y:A} (hy:z4n y=[]) (htd:t≠d) (k:Cmd α):∀ (st:List A) (fp:FP) (r:α×List A×FP),zn E k (st.set d (.bor t)) fp=some r->d<st.length->st[d]?=some y->z4l st t=true →
 d∉r.2.2.rd->d∉r.2.2.wr->t∉r.2.2.ow->∃ st2,zn E k st fp=some (r.1,st2,r.2.2)/\r.2.1=st2.set d (.bor t)/\st2[d]?=some y/\z4l st2 t=true/\st2.length=st.length:=by
 induction k with
 | ret a =>
   intro st fp r h hd hy0 ho _ _ _;rw[z3e h];exact⟨st,rfl,rfl,hy0,ho,rfl⟩
 | fail=>intro st fp r h;exact (z6 h).elim
 | get u k ih =>
   intro st fp r h hd hy0 ho h1 h2 h3;have hmem:u∈r.2.2.rd:=(z3f (k _) _ { fp with rd:=u::fp.rd,rr:=(z4n ((st.set d (.bor t)).getD u .dead)).append fp.rr } r h).1 u (by simp);have hud:u≠d:=fun e=>h1 (e ▸ hmem)
   have hg:(st.set d (.bor t)).getD u .dead=st.getD u .dead:=z3d hud;have h':zn E (k (st.getD u .dead)) (st.set d (.bor t)) { fp with rd:=u::fp.rd,rr:=(z4n (st.getD u .dead)).append fp.rr }=some r:=by rw[<- hg];exact h
   exact ih _ st _ r h' hd hy0 ho h1 h2 h3
 | set u x k ih =>
   intro st fp r h hd hy0 ho h1 h2 h3;simp only[zn,Cmd.cps] at h;cases hk:z87 E (st.set d (.bor t)) u x<;>rw[hk] at h
   . simp at h
   simp only[cond] at h;obtain⟨m1,m2,m3⟩:=z3f k _ _ r h;have hud:u≠d:=fun e=>h2 (by subst e;exact m2 _ (by simp))
   have hut:u≠t:=fun e=>h3 (by subst e;exact m3 _ (by simp))
   have hxr:∀ s∈z4n x,s≠d:=fun s hs e=>h1 (by subst e;exact m1 _ (List.mem_append.2 (.inl hs)))
   obtain⟨e1,e2,e3⟩:=zwf (x:=x) hd hy0 hy htd ho hut hud;have hk':z87 E st u x=true:=by
    rw[<- hk];exact (zen (by simp) (fun s hs=>List.getElem?_set_ne (Ne.symm (hxr s hs)))).symm
   rw[e1,zsv hd hy0 hy hut hud,z3d hud] at h;obtain⟨st2,g1,g2,g3,g4,g5⟩:=ih _ _ r h (by rw[z1u];exact hd) e2 e3 h1 h2 h3;refine⟨st2,?_,g2,g3,g4,by rw[g5,z1u]⟩;simp only[zn,Cmd.cps];rw[hk'];exact g1
 | cont u x k ih =>
   intro st fp r h hd hy0 ho h1 h2 h3;simp only[zn,Cmd.cps] at h;cases hk:Nat.blt u (st.set d (.bor t)).length<;>rw[hk] at h
   . simp at h
   simp only[cond] at h;obtain⟨m1,m2,m3⟩:=z3f k _ _ r h;have hud:u≠d:=fun e=>h2 (by subst e;exact m2 _ (by simp))
   have hut:u=t->x.own=true:=by
    intro e;cases hx:x.own with
    | true=>rfl
    | false=>exact absurd (m3 t (by rw[hx,e];simp)) h3
   have hul:u<st.length:=by simpa using hk
   obtain⟨e1,e2,e3⟩:=ztn (x:=x) hd hy0 hy htd ho hut hul hud;rw[e1,ztd hd hy0 hy,z3d hud] at h;obtain⟨st2,g1,g2,g3,g4,g5⟩:=ih _ _ r h (by simpa[z1j] using hd) e2 e3 h1 h2 h3;refine⟨st2,?_,g2,g3,g4,by rw[g5];simp[z1j]⟩;simp only[zn,Cmd.cps];rw[show Nat.blt u st.length=true by simpa using hul];exact g1
 | retire u k ih =>
   intro st fp r h hd hy0 ho h1 h2 h3;simp only[zn,Cmd.cps] at h;obtain⟨m1,m2,m3⟩:=z3f k _ _ r h;have hud:u≠d:=fun e=>h2 (by subst e;exact m2 _ (by simp))
   have hut:u≠t:=fun e=>h3 (by subst e;exact m3 _ (by simp))
   obtain⟨e1,e2,e3⟩:=zwg hd hy0 hy htd ho hut hud;rw[e1,zm1 hd hy0 hy hut] at h;obtain⟨st2,g1,g2,g3,g4,g5⟩:=ih _ _ r h (by rw[z3b];exact hd) e2 e3 h1 h2 h3;exact⟨st2,g1,g2,g3,g4,by rw[g5,z3b]⟩
 | test b x y' ihx ihy =>
   intro st fp r h;cases b with
   | true=>exact ihx st fp r h
   | false=>exact ihy st fp r h
 | call f args k ih =>
   intro st fp r h hd hy0 ho h1 h2 h3;obtain⟨x,hv,h⟩:=z5z h;obtain⟨st2,g1,g⟩:=ih _ _ st fp r h hd hy0 ho h1 h2 h3;refine⟨st2,?_,g⟩;simp only[zn,Cmd.cps,hv,Option.bind_some];exact g1
 | guard u x y' z ihx ihy ihz =>
   intro st fp r h hd hy0 ho h1 h2 h3;have hud:u≠d:=fun e=>h1 (by subst e;exact (z8q h))
   simp only[zn,Cmd.cps] at h ⊢;rw[z3d hud] at h;split at h
   . rename_i b hb;have hut:u≠t:=by
      intro e;subst e;rw[zb8,hb] at ho;cases ho
     have key:∀ v:A,(st.set d (.bor t)).set u v=(st.set u v).set d (.bor t):=fun v=>List.set_comm _ _ (Ne.symm hud)
     have k1:∀ v:A,(st.set u v)[d]?=some y:=fun v=>by rw[List.getElem?_set_ne hud];exact hy0
     have k2:∀ v:A,z4l (st.set u v) t=true:=fun v=>by rw[z2h (List.getElem?_set_ne hut)];exact ho
     cases b<;>simp only[cond] at h ⊢
     . rw[key] at h;obtain⟨st2,g1,g2,g3,g4,g5⟩:=ihy _ _ r h (by simpa using hd) (k1 _) (k2 _) h1 h2 h3;exact⟨st2,g1,g2,g3,g4,by rw[g5];simp⟩
     . rw[key] at h;obtain⟨st2,g1,g2,g3,g4,g5⟩:=ihx _ _ r h (by simpa using hd) (k1 _) (k2 _) h1 h2 h3;exact⟨st2,g1,g2,g3,g4,by rw[g5];simp⟩
   . exact ihz _ _ r h hd hy0 ho h1 h2 h3
   . cases h
theorem zp2 {d:Nat}{a:A}{z st1:List A}{p f:FP}(h:(lay (some d) a).cps E z p (fun a st fp=>some (a,st,fp))=some ((),st1,f)):f.bo=(z1a9 a).append p.bo/\p.rd.length+(z4n a).length+1<=f.rd.length:=by
 simp only[lay,Cmd.cps] at h;cases hk:z87 E z d a<;>rw[hk] at h
 . simp at h
 simp only[cond,Option.some.injEq,Prod.mk.injEq,true_and] at h;obtain⟨_,rfl⟩:=h;refine⟨rfl,?_⟩;simp;omega
theorem z12i {d t:Nat} {st st1:List A} {f:FP} (h:zn E (rdK E (.tmp t) fun a=>(match a with
 | .bor r=>.get r fun c=>(match c with
   | .row t xs=>.retire r (lay (some d) (.v (.sl t) xs))
   | _=>lay (some d) a)
 | _=>lay (some d) a)) st fp0=some ((),st1,f)) (hb:f.bo=[t]):4<=f.rd.length:=by
 have far:∀ r (q:List Nat),(match st.getD r .dead with
  | .row t xs=>Cmd.retire r (lay (some d) (.v (.sl t) xs))
  | _=>lay (some d) (.bor r)).cps E st { fp0 with rd:=[r,t],rr:=q } (fun a st fp=>some (a,st,fp))=some ((),st1,f)->4<=f.rd.length:=by
  intro r q h;split at h
  . simp only[Cmd.cps] at h;obtain⟨h1,h2⟩:=zp2 h;rw[hb] at h1;simp[z1a9,fp0] at h1
  . obtain⟨h1,h2⟩:=zp2 h;simpa[z4n] using h2
 have near:∀ (a:A) (q:List Nat),z1a9 a=[]->(lay (some d) a).cps E st { fp0 with rd:=[t],rr:=q } (fun a st fp=>some (a,st,fp))=some ((),st1,f)->4<=f.rd.length:=by
  intro a q ha h;obtain⟨h1,h2⟩:=zp2 h;rw[hb,ha] at h1;simp[fp0] at h1
 unfold zn at h;simp only[Cmd.cps,rdK] at h;cases hz:st.getD t .dead<;>rw[hz] at h<;>simp only[Cmd.cps] at h<;>first|exact far _ _ h|exact near _ _ rfl h|cases h
theorem zwd {all:Array Oper}{o:Oper}{k:Cmd Unit}{st st1 st2:List A}{f g:FP}(h1:zn E (z48 E all o) st fp0=some ((),st1,f))(h2:zn E k st1 fp0=some ((),st2,g))(hc:z15s o f g=true) :
 ∃ st1',zn E k st fp0=some ((),st1',g)/\zn E (z48 E all o) st1' fp0=some ((),st2,f):=by
 unfold z15s at hc;split at hc
 . rename_i t d ho hdst hgd;obtain⟨c1,c2⟩:=z7 hc;obtain⟨c3,c4⟩:=z7 c1;obtain⟨c5,c6⟩:=z7 c4;obtain⟨c7,c8⟩:=z7 c6;obtain⟨c9,c10⟩:=z7 c2;obtain⟨c11,c12⟩:=z7 c10;obtain⟨c13,c14⟩:=z7 c12;have frd:=of_decide_eq_true c3;have fbo:=of_decide_eq_true c5;have fov:f.ov=false:=by simpa using c7
   have fall:f.all=false:=by simpa using c8
   have htd:t≠d:=by intro e;subst e;simp at c9
   have hbt:∀ u,E.boxT d≠some (.sl u):=by
    intro u hu;unfold z48 z1x at h1;rw[hgd,ho,hdst] at h1;simp only[Option.bind_some,hu] at h1;have h4:=z12i h1 fbo;rw[frd] at h4;simp at h4
   have e0:∀ st:List A,zn E (z48 E all o) st fp0=zn E (rdK E (.tmp t) fun a=>lay (some d) a) st fp0:=by
    intro st;unfold z48 z1x;rw[hgd,ho,hdst];simp only[Option.bind_some]
   have eo:∀ st:List A,z4l st t=true->zn E (z48 E all o) st fp0=zn E (.set d (.bor t) (.ret ())) st { fp0 with rd:=[t] }:=by
    intro st hst;rw[e0];rw[zb8] at hst;simp only[zn,Cmd.cps,rdK];cases hz:st.getD t .dead<;>rw[hz] at hst<;>first|rfl|(simp[A.own] at hst)
   obtain⟨a,q,ha⟩:∃ a q,zn E (.set d a (.ret ())) st { fp0 with rd:=[t],rr:=q }=some ((),st1,f):=by
    rw[e0] at h1;simp only[zn,Cmd.cps,rdK] at h1;cases hy:st.getD t .dead<;>rw[hy] at h1<;>first|exact⟨_,_,h1⟩|(simp[Cmd.cps] at h1)
   simp only[zn,Cmd.cps] at ha;cases hk:z87 E st d a<;>rw[hk] at ha
   . simp at ha
   simp only[cond,Option.some.injEq,Prod.mk.injEq,true_and] at ha;obtain⟨es,ef⟩:=ha;have hat:a=.bor t:=by
    have hb:z1a9 a++[]=[t]:=by rw[<- fbo,<- ef];rfl
    cases a<;>simp[z1a9] at hb
    rw[hb]
   subst hat;have hok:=hk;unfold z87 at hok;obtain⟨k1,k2⟩:=z7 hok;obtain⟨k3,k4⟩:=z7 k1;have hd:d<st.length:=by simpa using k3
   have hown:z4l st t=true:=(z7 k2).2;have h1':=h1;rw[eo st hown] at h1';simp only[zn,Cmd.cps] at h1';rw[hk] at h1';simp only[cond,Option.some.injEq,Prod.mk.injEq,true_and] at h1';clear ef;obtain⟨_,ef⟩:=h1';obtain⟨y,hy0⟩:∃ y,st[d]?=some y:=⟨_,List.getElem?_eq_getElem hd⟩
   have hyd:st.getD d .dead=y:=by rw[List.getD_eq_getElem?_getD,hy0];rfl
   have hyr:z4n y=[]:=by
    have hb:[t]++(z4n y++[d,t])=[t,d,t]:=by rw[<- frd,<- ef,hyd];rfl
    have hl:=congrArg List.length hb;simp only[List.length_append,List.length_cons,List.length_nil] at hl;exact List.length_eq_zero_iff.1 (by omega)
   have hyo:y.own=false:=by
    have:(false || (st.getD d .dead).own)=f.ov:=by rw[<- ef];rfl
    rw[fov,hyd,Bool.false_or] at this;exact this
   have hset:∀ {z:List A},z[d]?=some y->z5p z d (.bor t)=z.set d (.bor t):=by
    intro z hz;have hzd:z.getD d .dead=y:=by rw[List.getD_eq_getElem?_getD,hz];rfl
    unfold z5p;rw[hzd];cases y<;>first|rfl|(simp[A.own] at hyo)
   have horf:∀ {z:List A},z[d]?=some y->ownRef z d=false:=by
    intro z hz;have hzd:z.getD d .dead=y:=by rw[List.getD_eq_getElem?_getD,hz];rfl
    unfold ownRef;rw[zb8,hzd,hyo]
   rw[hset hy0] at es;subst es;obtain⟨st2',g1,g2,g3,g4,g5⟩:=slip hyr htd k st fp0 _ h2 hd hy0 hown (by simpa using c11) (by simpa using c13) (by simpa using c14);refine⟨st2',g1,?_⟩;rw[eo st2' g4];simp only[zn,Cmd.cps];have hok2:z87 E st2' d (.bor t)=true:=by
    unfold z87;rw[g5,k1];show z1i true (z1i (!(Nat.beq t d)) (z4l st2' t))=true;rw[g4,(z7 k2).1];rfl
   have hyd2:st2'.getD d .dead=y:=by rw[List.getD_eq_getElem?_getD,g3];rfl
   rw[hok2,hset g3,horf g3,hyd2];rw[horf hy0,hyd] at ef;simp only at g2;rw[g2,<- ef];rfl
 . cases hc
theorem ziq {α:Type}(k:Cmd α):∀ (st:List A) (fp:FP) (r:α×List A×FP),zn E k st fp=some r->(∃ l,r.2.2.wr=l++fp.wr)/\(∃ l,r.2.2.rr=l++fp.rr)/\(r.2.2.ov=false->fp.ov=false):=by
 induction k with
 | ret a=>intro st fp r h;rw[z3e h];exact⟨⟨[],rfl⟩,⟨[],rfl⟩,id⟩
 | fail=>intro st fp r h;exact (z6 h).elim
 | get t k ih =>
   intro st fp r h;obtain⟨h1,⟨l,h2⟩,h3⟩:=ih _ st _ r h;exact⟨h1,⟨l++z4n (st.getD t .dead),by rw[h2];simp⟩,h3⟩
 | set t x k ih =>
   intro st fp r h;simp only[zn,Cmd.cps] at h;cases hk:z87 E st t x<;>rw[hk] at h
   . simp at h
   simp only[cond] at h;obtain⟨⟨l,h1⟩,h2,h3⟩:=ih _ _ r h;refine⟨⟨l++[t],by rw[h1];simp⟩,h2,fun e=>?_⟩;have:=h3 e;simp only[Bool.or_eq_false_iff] at this;exact this.1
 | cont u x k ih =>
   intro st fp r h;simp only[zn,Cmd.cps] at h;cases hk:Nat.blt u st.length<;>rw[hk] at h
   . simp at h
   simp only[cond] at h;obtain⟨⟨l,h1⟩,h2,h3⟩:=ih _ _ r h;exact⟨⟨l++[u],by rw[h1];simp⟩,h2,h3⟩
 | retire u k ih =>
   intro st fp r h;simp only[zn,Cmd.cps] at h;obtain⟨⟨l,h1⟩,h2,h3⟩:=ih _ _ r h;exact⟨⟨l++[u],by rw[h1];simp⟩,h2,h3⟩
 | test b x y ihx ihy =>
   intro st fp r h;cases b with
   | true=>exact ihx st fp r h
   | false=>exact ihy st fp r h
 | call f args k ih =>
   intro st fp r h;obtain⟨x,hv,h⟩:=z5z h;exact ih _ _ st fp r h
 | guard u x y z ihx ihy ihz =>
   intro st fp r h;simp only[zn,Cmd.cps] at h;split at h
   . rename_i b _;cases b<;>simp only[cond] at h
     . have:=ihy _ _ r h;exact this
     . have:=ihx _ _ r h;exact this
   . have:=ihz _ _ r h;exact this
   . cases h
theorem z9z {st:List A}{u:Nat}{x:A}(h:st.getD u .dead=x)(hx:x ≠ .dead):st.set u x=st:=by
 apply List.ext_getElem?;intro i;by_cases e:u=i
 . subst e;have:=zm h hx;rw[this,List.getElem?_set_self (by
    rcases Nat.lt_or_ge u st.length with h1|h1
    . exact h1
    . rw[List.getElem?_eq_none h1] at this;cases this)]
 . rw[List.getElem?_set_ne e]
theorem zci {st st':List A}{u:Nat}(h:st'[u]?=st[u]?):st'.getD u .dead=st.getD u .dead:=by simp[List.getD,h]
theorem z15m {α:Type} (k:Cmd α):∀ (st:List A) (fp:FP) (r:α×List A×FP),zn E k st fp=some r->r.2.2.wr=fp.wr →
 r.2.1=st/\r.2.2.sl=fp.sl/\(r.2.2.rr=[]->∀ u∈r.2.2.rd,u∈fp.rd\/z4n (st.getD u .dead)=[])/\∀ st',(∀ u∈r.2.2.rd,st'[u]?=st[u]?)->zn E k st' fp=some (r.1,st',r.2.2):=by
 have no:∀ {t:Nat} {l m:List Nat},l++t::m≠m:=by
  intro t l m e;have:=congrArg List.length e;simp at this;omega
 induction k with
 | ret a=>intro st fp r h _;rw[z3e h];exact⟨rfl,rfl,fun _ u hu=>.inl hu,fun st' _=>rfl⟩
 | fail=>intro st fp r h;exact (z6 h).elim
 | get t k ih =>
   intro st fp r h hw;obtain⟨m1,_,_⟩:=z3f (k _) _ _ r h;obtain⟨_,⟨l,hl⟩,_⟩:=ziq (k _) _ _ r h;obtain⟨h1,h2,h3,h4⟩:=ih _ st _ r h hw;refine⟨h1,h2,fun e u hu=>?_,fun st' hag=>?_⟩
   . rcases h3 e u hu with h|h
     . rcases List.mem_cons.1 h with rfl|h
       . rw[e] at hl;have:=List.append_eq_nil_iff.1 hl.symm;exact .inr (List.append_eq_nil_iff.1 this.2).1
       . exact .inl h
     . exact .inr h
   . have:=h4 st' hag;show zn E (k (st'.getD t .dead)) st' _=_;rw[zci (hag t (m1 t (by simp)))];exact this
 | set t x k ih =>
   intro st fp r h hw;simp only[zn,Cmd.cps] at h;cases hk:z87 E st t x<;>rw[hk] at h
   . simp at h
   simp only[cond] at h;obtain⟨⟨l,h1⟩,_⟩:=ziq k _ _ r h;exact absurd (h1.symm.trans hw) no
 | cont u x k ih =>
   intro st fp r h hw;simp only[zn,Cmd.cps] at h;cases hk:Nat.blt u st.length<;>rw[hk] at h
   . simp at h
   simp only[cond] at h;obtain⟨⟨l,h1⟩,_⟩:=ziq k _ _ r h;exact absurd (h1.symm.trans hw) no
 | retire u k ih =>
   intro st fp r h hw;simp only[zn,Cmd.cps] at h;obtain⟨⟨l,h1⟩,_⟩:=ziq k _ _ r h;exact absurd (h1.symm.trans hw) no
 | test b x y ihx ihy =>
   intro st fp r h hw;cases b with
   | true=>exact ihx st fp r h hw
   | false=>exact ihy st fp r h hw
 | call f args k ih =>
   intro st fp r h hw;obtain⟨x,hv,h⟩:=z5z h;obtain⟨h1,h2,h3,h4⟩:=ih _ _ st fp r h hw;refine⟨h1,h2,h3,fun st' hag=>?_⟩;simp only[zn,Cmd.cps,hv,Option.bind_some];exact h4 st' hag
 | guard u x y z ihx ihy ihz =>
   intro st fp r h hw;have hur:u∈r.2.2.rd:=z8q h;simp only[zn,Cmd.cps] at h;split at h
   . rename_i b hb;have hs:st.set u (.v .bool b)=st:=z9z hb (by simp);cases b<;>simp only[cond] at h
     . rw[hs] at h;obtain⟨h1,h2,h3,h4⟩:=ihy _ _ r h hw;refine⟨h1,h2,fun e v hv=>?_,fun st' hag=>?_⟩
       . rcases h3 e v hv with h|h
         . rcases List.mem_cons.1 h with rfl|h
           . rw[hb];exact .inr rfl
           . exact .inl h
         . exact .inr h
       . have hb':st'.getD u .dead=.v .bool false:=(zci (hag u hur)).trans hb;simp only[zn,Cmd.cps,hb',cond];rw[z9z hb' (by simp)];exact h4 st' hag
     . rw[hs] at h;obtain⟨h1,h2,h3,h4⟩:=ihx _ _ r h hw;refine⟨h1,h2,fun e v hv=>?_,fun st' hag=>?_⟩
       . rcases h3 e v hv with h|h
         . rcases List.mem_cons.1 h with rfl|h
           . rw[hb];exact .inr rfl
           . exact .inl h
         . exact .inr h
       . have hb':st'.getD u .dead=.v .bool true:=(zci (hag u hur)).trans hb;simp only[zn,Cmd.cps,hb',cond];rw[z9z hb' (by simp)];exact h4 st' hag
   . rename_i hb;obtain⟨h1,h2,h3,h4⟩:=ihz _ _ r h hw;refine⟨h1,h2,fun e v hv=>?_,fun st' hag=>?_⟩
     . rcases h3 e v hv with h|h
       . rcases List.mem_cons.1 h with rfl|h
         . rw[hb];exact .inr rfl
         . exact .inl h
       . exact .inr h
     . have hb':st'.getD u .dead=.tup []:=(zci (hag u hur)).trans hb;simp only[zn,Cmd.cps,hb'];exact h4 st' hag
   . cases h
theorem lays {α:Type} {d:Nat} (k:Cmd α):∀ (st:List A) (fp:FP) (r:α×List A×FP),zn E k st fp=some r->r.2.2.wr=d::fp.wr->r.2.2.sl=d::fp.sl->r.2.2.ov=false->r.2.2.rr=[] →
 ∃ x y,z4n x=[]/\z4n y=[]/\st[d]?=some y/\r.2.1=st.set d x/\(∀ u∈r.2.2.rd,u∈fp.rd\/z4n (st.getD u .dead)=[])/\∀ st',st'.length=st.length->(∀ u∈r.2.2.rd,st'[u]?=st[u]?)->zn E k st' fp=some (r.1,st'.set d x,r.2.2):=by
 have no:∀ {t:Nat} {m:List Nat},t::m≠m:=by
  intro t m e;have:=congrArg List.length e;simp at this
 have one:∀ {t e:Nat} {l m:List Nat},e::m=l++t::m->e=t/\l=[]:=by
  intro t e l m h;have:=congrArg List.length h;rw[List.length_append,List.length_cons,List.length_cons] at this;have hl:l=[]:=List.length_eq_zero_iff.1 (by omega);subst hl;simp at h;exact⟨h,rfl⟩
 induction k with
 | ret a=>intro st fp r h hw;rw[z3e h] at hw;exact absurd hw.symm no
 | fail=>intro st fp r h;exact (z6 h).elim
 | get t k ih =>
   intro st fp r h hw hsl hov hrr;obtain⟨m1,_,_⟩:=z3f (k _) _ _ r h;obtain⟨_,⟨l,hl⟩,_⟩:=ziq (k _) _ _ r h;obtain⟨x,y,h1,h2,h3,h4,h5,h6⟩:=ih _ st _ r h hw hsl hov hrr;refine⟨x,y,h1,h2,h3,h4,fun u hu=>?_,fun st' hlen hag=>?_⟩
   . rcases h5 u hu with h|h
     . rcases List.mem_cons.1 h with rfl|h
       . rw[hrr] at hl;have:=List.append_eq_nil_iff.1 hl.symm;exact .inr (List.append_eq_nil_iff.1 this.2).1
       . exact .inl h
     . exact .inr h
   . have:=h6 st' hlen hag;show zn E (k (st'.getD t .dead)) st' _=_;rw[zci (hag t (m1 t (by simp)))];exact this
 | set t x k ih =>
   intro st fp r h hw hsl hov hrr;simp only[zn,Cmd.cps] at h;cases hk:z87 E st t x<;>rw[hk] at h
   . simp at h
   simp only[cond] at h;obtain⟨hlt,_,_⟩:=z2i hk;obtain⟨m1,_,_⟩:=z3f k _ _ r h;obtain⟨⟨l,h1⟩,_,h3⟩:=ziq k _ _ r h;obtain⟨rfl,rfl⟩:=one (hw.symm.trans h1);have hov2:=h3 hov;simp only[Bool.or_eq_false_iff] at hov2;obtain⟨y,hy0⟩:∃ y,st[d]?=some y:=⟨_,List.getElem?_eq_getElem hlt⟩
   have hyd:st.getD d .dead=y:=by rw[List.getD_eq_getElem?_getD,hy0];rfl
   have hyo:y.own=false:=by rw[<- hyd];exact hov2.2
   have hset:∀ {z:List A},z.getD d .dead=y->z5p z d x=z.set d x:=by
    intro z hz;unfold z5p;rw[hz];cases y<;>first|rfl|(simp[A.own] at hyo)
   have horf:∀ {z:List A},z.getD d .dead=y->ownRef z d=false:=by
    intro z hz;unfold ownRef;rw[zb8,hz,hyo]
   obtain⟨g1,g2,g3,g4⟩:=z15m k _ _ r h h1;rw[hsl,hyd] at g2;have href:z4n x=[]/\z4n y=[]:=by
    unfold slL at g2;split at g2
    . rename_i e1 e2;exact⟨e1,e2⟩
    . exact absurd g2 no
   rw[hset hyd] at g1 g3 g4;have hdr:d∈r.2.2.rd:=m1 d (by simp);refine⟨x,y,href.1,href.2,hy0,g1,fun u hu=>?_,fun st' hlen hag=>?_⟩
   . by_cases hud:u=d
     . subst hud;exact .inr (by rw[hyd];exact href.2)
     rcases g3 hrr u hu with h|h
     . rw[href.1,hyd,href.2] at h;rcases List.mem_cons.1 h with e|h
       . exact absurd e hud
       . exact .inl h
     . rw[z3d hud] at h;exact .inr h
   . have hyd':st'.getD d .dead=y:=(zci (hag d hdr)).trans hyd;have hok:z87 E st' d x=true:=by
      rw[<- hk];exact zen hlen (fun s hs=>by rw[href.1] at hs;cases hs)
     have:=g4 (st'.set d x) (fun u hu=>by
      by_cases hud:d=u
      . subst hud;rw[List.getElem?_set_self (by omega),List.getElem?_set_self hlt]
      . rw[List.getElem?_set_ne hud,List.getElem?_set_ne hud];exact hag u hu)
     simp only[zn,Cmd.cps,hok,cond];rw[hset hyd',horf hyd',hyd'];rw[horf hyd,hyd] at this;exact this
 | cont u x k ih =>
   intro st fp r h hw hsl;simp only[zn,Cmd.cps] at h;cases hk:Nat.blt u st.length<;>rw[hk] at h
   . simp at h
   simp only[cond] at h;obtain⟨⟨l,h1⟩,_⟩:=ziq k _ _ r h;obtain⟨rfl,rfl⟩:=one (hw.symm.trans h1);obtain⟨g1,g2,_⟩:=z15m k _ _ r h h1;exact absurd (hsl.symm.trans g2) no
 | retire u k ih =>
   intro st fp r h hw hsl;simp only[zn,Cmd.cps] at h;obtain⟨⟨l,h1⟩,_⟩:=ziq k _ _ r h;obtain⟨rfl,rfl⟩:=one (hw.symm.trans h1);obtain⟨g1,g2,_⟩:=z15m k _ _ r h h1;exact absurd (hsl.symm.trans g2) no
 | test b x y ihx ihy =>
   intro st fp r h;cases b with
   | true=>exact ihx st fp r h
   | false=>exact ihy st fp r h
 | call f args k ih =>
   intro st fp r h hw hsl hov hrr;obtain⟨x,hv,h⟩:=z5z h;obtain⟨x',y,h1,h2,h3,h4,h5,h6⟩:=ih _ _ st fp r h hw hsl hov hrr;refine⟨x',y,h1,h2,h3,h4,h5,fun st' hlen hag=>?_⟩;simp only[zn,Cmd.cps,hv,Option.bind_some];exact h6 st' hlen hag
 | guard u x y z ihx ihy ihz =>
   intro st fp r h hw hsl hov hrr;have hur:u∈r.2.2.rd:=z8q h;have fin:∀ {v:A} {rd:List Nat},st.getD u .dead=v->z4n v=[]->(∀ w∈r.2.2.rd,w∈u::rd\/z4n (st.getD w .dead)=[])->∀ w∈r.2.2.rd,w∈rd\/z4n (st.getD w .dead)=[]:=by
    intro v rd hv hr h w hw;rcases h w hw with h|h
    . rcases List.mem_cons.1 h with rfl|h
      . rw[hv];exact .inr hr
      . exact .inl h
    . exact .inr h
   simp only[zn,Cmd.cps] at h;split at h
   . rename_i b hb;have hs:st.set u (.v .bool b)=st:=z9z hb (by simp);cases b<;>simp only[cond] at h
     . rw[hs] at h;obtain⟨x',y',h1,h2,h3,h4,h5,h6⟩:=ihy _ _ r h hw hsl hov hrr;refine⟨x',y',h1,h2,h3,h4,fin hb rfl h5,fun st' hlen hag=>?_⟩;have hb':st'.getD u .dead=.v .bool false:=(zci (hag u hur)).trans hb;simp only[zn,Cmd.cps,hb',cond];rw[z9z hb' (by simp)];exact h6 st' hlen hag
     . rw[hs] at h;obtain⟨x',y',h1,h2,h3,h4,h5,h6⟩:=ihx _ _ r h hw hsl hov hrr;refine⟨x',y',h1,h2,h3,h4,fin hb rfl h5,fun st' hlen hag=>?_⟩;have hb':st'.getD u .dead=.v .bool true:=(zci (hag u hur)).trans hb;simp only[zn,Cmd.cps,hb',cond];rw[z9z hb' (by simp)];exact h6 st' hlen hag
   . rename_i hb;obtain⟨x',y',h1,h2,h3,h4,h5,h6⟩:=ihz _ _ r h hw hsl hov hrr;refine⟨x',y',h1,h2,h3,h4,fin hb rfl h5,fun st' hlen hag=>?_⟩;have hb':st'.getD u .dead=.tup []:=(zci (hag u hur)).trans hb;simp only[zn,Cmd.cps,hb'];exact h6 st' hlen hag
   . cases h
theorem zje {st:List A}{d u:Nat}{x y:A}(hd:d<st.length)(hy0:st[d]?=some y)(hx:z4n x=[])(hy:z4n y=[]):hasRef u (st.set d x)=hasRef u st:=by
 rw[Bool.eq_iff_iff,z3t,z3t];constructor
 . rintro⟨i,h⟩;rw[z2f hd] at h;split at h
   . have:=zfb h;rw[hx] at this;cases this
   . exact⟨i,h⟩
 . rintro⟨i,h⟩;refine⟨i,(z2f hd).2 ?_⟩;split
   . rename_i e;subst e;obtain⟨z,h1,h2⟩:=h;rw[hy0] at h1;cases h1;have:=zfb h2;rw[hy] at this;cases this
   . exact h
theorem zr7 {st:List A}{d u:Nat}{x y:A}(hd:d<st.length)(hy0:st[d]?=some y)(hx:z4n x=[])(hy:z4n y=[]):hasCel u (st.set d x)=hasCel u st:=by
 rw[Bool.eq_iff_iff,z6h,z6h];constructor
 . rintro⟨i,h⟩;rw[z2f hd] at h;split at h
   . have:=zfb h;rw[hx] at this;cases this
   . exact⟨i,h⟩
 . rintro⟨i,h⟩;refine⟨i,(z2f hd).2 ?_⟩;split
   . rename_i e;subst e;obtain⟨z,h1,h2⟩:=h;rw[hy0] at h1;cases h1;have:=zfb h2;rw[hy] at this;cases this
   . exact h
theorem zlo (f:A->A){st:List A}{d:Nat}{x y:A}(hy0:st[d]?=some y)(hfy:f y=y)(hfx:f x=x):(st.set d x).map f=(st.map f).set d x/\(st.map f)[d]?=some y :=
 ⟨by rw[List.map_set,hfx],by rw[List.getElem?_map,hy0,Option.map_some,hfy]⟩
theorem zl0 {st:List A}{d u:Nat}{v x y:A}(hy0:st[d]?=some y)(hx:z4n x=[])(hy:z4n y=[])(hud:u≠d) :
 z5p (st.set d x) u v=(z5p st u v).set d x/\(z5p st u v)[d]?=some y:=by
 obtain⟨m1,m2⟩:=zlo (zjz u) hy0 (zic hy) (zic hx);unfold z5p;rw[z3d hud];split
 all_goals
  refine⟨?_,?_⟩
  first
   | rw[m1,List.set_comm _ _ (Ne.symm hud)]
   | rw[List.set_comm _ _ (Ne.symm hud)]
  first
   | (rw[List.getElem?_set_ne hud];exact m2)
   | (rw[List.getElem?_set_ne hud];exact hy0)
theorem zjh {st:List A}{d u:Nat}{v x y:A}(hy0:st[d]?=some y)(hx:z4n x=[])(hy:z4n y=[])(hud:u≠d) :
 z1j (st.set d x) u v=(z1j st u v).set d x/\(z1j st u v)[d]?=some y:=by
 obtain⟨m1,m2⟩:=zlo (zh1 u) hy0 (zib hy) (zib hx);unfold z1j;exact⟨by rw[m1,List.set_comm _ _ (Ne.symm hud)],by rw[List.getElem?_set_ne hud];exact m2⟩
theorem zl8 {st:List A}{d u:Nat}{x y:A}(hy0:st[d]?=some y)(hx:z4n x=[])(hy:z4n y=[])(hud:u≠d) :
 z97 (st.set d x) u=(z97 st u).set d x/\(z97 st u)[d]?=some y:=by
 unfold z97;rw[z3d hud];split
 . rename_i z _;obtain⟨m1,m2⟩:=zlo (zv5 u z) hy0 (zl9 hy) (zl9 hx);exact⟨by rw[m1,List.set_comm _ _ (Ne.symm hud)],by rw[List.getElem?_set_ne hud];exact m2⟩
 . exact⟨rfl,hy0⟩
theorem slipV {α:Type}{d:Nat}{x y:A}(hx:z4n x=[])(hy:z4n y=[])(k:Cmd α):∀ (st:List A) (fp:FP) (r:α×List A×FP),zn E k (st.set d x) fp=some r->d<st.length->st[d]?=some y →
 d∉r.2.2.rd->d∉r.2.2.wr->∃ st2,zn E k st fp=some (r.1,st2,r.2.2)/\r.2.1=st2.set d x/\st2.length=st.length/\∀ u,u∉r.2.2.wr->∀ z,st[u]?=some z->z4n z=[]->st2[u]?=some z:=by
 induction k with
 | ret a =>
   intro st fp r h hd hy0 _ _;rw[z3e h];exact⟨st,rfl,rfl,rfl,fun _ _ _ h _=>h⟩
 | fail=>intro st fp r h;exact (z6 h).elim
 | get u k ih =>
   intro st fp r h hd hy0 h1 h2;have hmem:u∈r.2.2.rd:=(z3f (k _) _ { fp with rd:=u::fp.rd,rr:=(z4n ((st.set d x).getD u .dead)).append fp.rr } r h).1 u (by simp);have hud:u≠d:=fun e=>h1 (e ▸ hmem)
   have hg:(st.set d x).getD u .dead=st.getD u .dead:=z3d hud;have h':zn E (k (st.getD u .dead)) (st.set d x) { fp with rd:=u::fp.rd,rr:=(z4n (st.getD u .dead)).append fp.rr }=some r:=by rw[<- hg];exact h
   exact ih _ st _ r h' hd hy0 h1 h2
 | set u v k ih =>
   intro st fp r h hd hy0 h1 h2;simp only[zn,Cmd.cps] at h;cases hk:z87 E (st.set d x) u v<;>rw[hk] at h
   . simp at h
   simp only[cond] at h;obtain⟨m1,m2,_⟩:=z3f k _ _ r h;have hud:u≠d:=fun e=>h2 (by subst e;exact m2 _ (by simp))
   have hxr:∀ s∈z4n v,s≠d:=fun s hs e=>h1 (by subst e;exact m1 _ (List.mem_append.2 (.inl hs)))
   obtain⟨e1,e2⟩:=zl0 (v:=v) hy0 hx hy hud;have hk':z87 E st u v=true:=by
    rw[<- hk];exact (zen (by simp) (fun s hs=>List.getElem?_set_ne (Ne.symm (hxr s hs)))).symm
   have hor:ownRef (st.set d x) u=ownRef st u:=by
    unfold ownRef;rw[z2h (List.getElem?_set_ne (Ne.symm hud)),zje hd hy0 hx hy]
   rw[e1,hor,z3d hud] at h;obtain⟨st2,g1,g2,g3,g4⟩:=ih _ _ r h (by rw[z1u];exact hd) e2 h1 h2;refine⟨st2,?_,g2,by rw[g3,z1u],fun s hs z hz hr=>g4 s hs z ?_ hr⟩
   . simp only[zn,Cmd.cps];rw[hk'];exact g1
   . have hsu:s≠u:=fun e=>hs (by subst e;exact m2 _ (by simp))
     exact (zl0 (v:=v) (x:=z) hz hr hr (Ne.symm hsu)).2
 | cont u v k ih =>
   intro st fp r h hd hy0 h1 h2;simp only[zn,Cmd.cps] at h;cases hk:Nat.blt u (st.set d x).length<;>rw[hk] at h
   . simp at h
   simp only[cond] at h;obtain⟨m1,m2,_⟩:=z3f k _ _ r h;have hud:u≠d:=fun e=>h2 (by subst e;exact m2 _ (by simp))
   have hul:u<st.length:=by simpa using hk
   obtain⟨e1,e2⟩:=zjh (v:=v) hy0 hx hy hud;rw[e1,zr7 hd hy0 hx hy,z3d hud] at h;obtain⟨st2,g1,g2,g3,g4⟩:=ih _ _ r h (by simpa[z1j] using hd) e2 h1 h2;refine⟨st2,?_,g2,by rw[g3];simp[z1j],fun s hs z hz hr=>g4 s hs z ?_ hr⟩
   . simp only[zn,Cmd.cps];rw[show Nat.blt u st.length=true by simpa using hul];exact g1
   . have hsu:s≠u:=fun e=>hs (by subst e;exact m2 _ (by simp))
     exact (zjh (v:=v) (x:=z) hz hr hr (Ne.symm hsu)).2
 | retire u k ih =>
   intro st fp r h hd hy0 h1 h2;simp only[zn,Cmd.cps] at h;obtain⟨m1,m2,_⟩:=z3f k _ _ r h;have hud:u≠d:=fun e=>h2 (by subst e;exact m2 _ (by simp))
   obtain⟨e1,e2⟩:=zl8 hy0 hx hy hud;rw[e1,zje hd hy0 hx hy] at h;obtain⟨st2,g1,g2,g3,g4⟩:=ih _ _ r h (by rw[z3b];exact hd) e2 h1 h2;refine⟨st2,g1,g2,by rw[g3,z3b],fun s hs z hz hr=>g4 s hs z ?_ hr⟩;have hsu:s≠u:=fun e=>hs (by subst e;exact m2 _ (by simp))
   exact (zl8 (x:=z) hz hr hr (Ne.symm hsu)).2
 | test b x' y' ihx ihy =>
   intro st fp r h;cases b with
   | true=>exact ihx st fp r h
   | false=>exact ihy st fp r h
 | call f args k ih =>
   intro st fp r h hd hy0 h1 h2;obtain⟨z,hv,h⟩:=z5z h;obtain⟨st2,g1,g⟩:=ih _ _ st fp r h hd hy0 h1 h2;refine⟨st2,?_,g⟩;simp only[zn,Cmd.cps,hv,Option.bind_some];exact g1
 | guard u x' y' z ihx ihy ihz =>
   intro st fp r h hd hy0 h1 h2;have hud:u≠d:=fun e=>h1 (by subst e;exact (z8q h))
   simp only[zn,Cmd.cps] at h ⊢;rw[z3d hud] at h;split at h
   . rename_i b hb;have hs:st.set u (.v .bool b)=st:=z9z hb (by simp);have hs':(st.set d x).set u (.v .bool b)=st.set d x:=z9z ((z3d hud).trans hb) (by simp);cases b<;>simp only[cond] at h ⊢<;>rw[hs'] at h<;>rw[hs]
     . exact ihy _ _ r h hd hy0 h1 h2
     . exact ihx _ _ r h hd hy0 h1 h2
   . exact ihz _ _ r h hd hy0 h1 h2
   . cases h
theorem zyb {all:Array Oper} {o:Oper} {k:Cmd Unit} {st st1 st2:List A} {f g:FP} (h1:zn E (z48 E all o) st fp0=some ((),st1,f)) (h2:zn E k st1 fp0=some ((),st2,g)) (hc:zuu o f g=true) :
 ∃ st1',zn E k st fp0=some ((),st1',g)/\zn E (z48 E all o) st1' fp0=some ((),st2,f):=by
 unfold zuu at hc;split at hc
 . rename_i ha;exact zwd h1 h2 ha
 . unfold z1bf at hc;split at hc
   . rename_i d e hw hsl;obtain⟨c1,c2⟩:=z7 hc;obtain⟨c3,c4⟩:=z7 c2;obtain⟨c5,c6⟩:=z7 c3;obtain⟨c7,c8⟩:=z7 c6;obtain⟨c9,c10⟩:=z7 c4;obtain⟨c11,c12⟩:=z7 c10;have hde:=z3x c1;subst hde;obtain⟨x,y,hx,hy,hy0,e1,hrd,hrun⟩:=lays (d:=d) _ st fp0 _ h1 hw hsl (by simpa using c5) (by simpa using c8);simp only at e1 hrd hrun;subst e1;have hd:d<st.length:=by
      rcases Nat.lt_or_ge d st.length with h|h
      . exact h
      . rw[List.getElem?_eq_none h] at hy0;cases hy0
     obtain⟨st1',g1,g2,g3,g4⟩:=slipV hx hy k st fp0 _ h2 hd hy0 (by simpa using c9) (by simpa using c11);simp only at g2;refine⟨st1',g1,?_⟩;rw[g2];refine hrun st1' g3 (fun u hu=>?_);have hm:u∉g.wr:=z9e (by simpa using c12) u hu;rcases Nat.lt_or_ge u st.length with h|h
     . have hz:st[u]?=some st[u]:=List.getElem?_eq_getElem h;have hzd:st.getD u .dead=st[u]:=by rw[List.getD_eq_getElem?_getD,hz];rfl
       rw[hz];refine g4 u hm _ hz ?_;rcases hrd u hu with h'|h'
       . cases h'
       . rw[hzd] at h';exact h'
     . rw[List.getElem?_eq_none h,List.getElem?_eq_none (by omega)]
   . cases hc
theorem zul {all:Array Oper} {fps:List FP} {i:Nat}:∀ (l1 l2:List Nat) (st st':List A),RunI E all fps (l1++i::l2) st st'->(∀ j∈l1,zhd (fps.getD j fp0) (fps.getD i fp0)=false\/∃ o,all[j]?=some o/\zuu o (fps.getD j fp0) (fps.getD i fp0)=true) →
 RunI E all fps (i::(l1++l2)) st st'
 | [],l2,st,st',h,_=>h
 | j :: l1,l2,st,st',h,hc=>by
   cases h with
   | cons ho h hr =>
     have:=zul l1 l2 _ _ hr (fun k hk=>hc k (by simp[hk]));cases this with
     | cons ho2 h2 hr2 =>
       rcases hc j (by simp) with hc|⟨o',ho',hc⟩
       . obtain⟨st1',g1,g2⟩:=z18l h h2 hc;exact .cons ho2 g1 (.cons ho g2 hr2)
       . rw[ho] at ho';cases ho';obtain⟨st1',g1,g2⟩:=zyb h h2 hc;exact .cons ho2 g1 (.cons ho g2 hr2)
inductive Anc (all:List Oper):Nat->Nat->Prop
 | base {i j:Nat} {o:Oper} (hj:all[j]?=some o) (h:i∈zhz o):Anc all i j
 | step {i k j:Nat} {o:Oper} (hj:all[j]?=some o) (hk:k∈zhz o) (h:Anc all i k):Anc all i j
theorem zqw {acc:List Nat} {i:Nat}:∀ (ks:List Nat) (m:Nat),(ks.foldl (fun m k=>m ||| (2^k ||| acc.getD k 0)) m).testBit i=true->m.testBit i=true\/∃ k∈ks,i=k\/(acc.getD k 0).testBit i=true
 | [],m,h=>.inl h
 | k :: ks,m,h=>by
   rcases zqw ks _ h with h|⟨k',hk',h⟩
   . rw[Nat.testBit_or,Nat.testBit_or] at h;rcases Bool.or_eq_true _ _ ▸ h with h|h
     . exact .inl h
     . rcases Bool.or_eq_true _ _ ▸ h with h|h
       . rw[Nat.testBit_two_pow] at h;exact .inr ⟨k,by simp,.inl (by have:=of_decide_eq_true h;omega)⟩
       . exact .inr ⟨k,by simp,.inr h⟩
   . exact .inr ⟨k',by simp[hk'],h⟩
theorem znu (all:List Oper):∀ (l:List Oper) (acc:List Nat),(∃ pre,all=pre++l/\pre.length=acc.length)->(∀ j m i,acc[j]?=some m->m.testBit i=true->Anc all i j) →
 ∀ j m i,(zzd l acc)[j]?=some m->m.testBit i=true->Anc all i j
 | [],acc,_,h,j,m,i,hj,hm=>h j m i hj hm
 | o :: l,acc,⟨pre,he,hl⟩,h,j,m,i,hj,hm=>by
   refine znu all l _ ⟨pre++[o],by simp[he],by simp[hl]⟩ ?_ j m i hj hm;intro j m i hj hm;have happ:(acc.append [(zhz o).foldl (fun m k=>m ||| (2^k ||| acc.getD k 0)) 0])=acc++[(zhz o).foldl (fun m k=>m ||| (2^k ||| acc.getD k 0)) 0]:=rfl;rw[happ] at hj;by_cases hlt:j<acc.length
   . rw[List.getElem?_append_left hlt] at hj;exact h j m i hj hm
   . rw[List.getElem?_append_right (by omega)] at hj;have hj0:j=acc.length:=by
      rcases Nat.lt_or_ge (j - acc.length) 1 with h'|h'
      . omega
      . rw[List.getElem?_eq_none (by simpa using h')] at hj;cases hj
     subst hj0;simp at hj;subst hj;have ho:all[acc.length]?=some o:=by rw[he,<- hl];simp
     rcases zqw _ _ hm with h'|⟨k,hk,h'|h'⟩
     . simp at h'
     . subst h';exact .base ho hk
     . refine .step ho hk ?_;cases hk':acc[k]? with
       | none=>simp[List.getD,hk'] at h'
       | some mk=>exact h k mk i hk' (by simpa[List.getD,hk'] using h')
theorem zxj {all:Array Oper}{listed:Array Bool}(hcl:∀ j o,all[j]?=some o->listed.getD j false=true->∀ k∈zhz o,listed.getD k false=true){i j:Nat}(h:Anc all.toList i j) :
 (∀ o,all[j]?=some o->∀ k∈zhz o,listed.getD k false=true)->listed.getD i false=true:=by
 induction h with
 | base hj hi=>intro hp;exact hp _ (by rw[<- Array.getElem?_toList];exact hj) _ hi
 | @step k j o hj hk _ ih =>
   intro hp;have hj':all[j]?=some o:=by rw[<- Array.getElem?_toList];exact hj
   exact ih fun o ho k hk'=>hcl _ o ho (hp _ hj' _ hk) k hk'
theorem ziz:∀ {l:List Oper} {i:Nat},zsu i l=true->∀ j o,l[j]?=some o->∀ k∈zhz o,k<i+j
 | [],_,_,j,o,hj=>by simp at hj
 | x :: l,i,h,j,o,hj=>by
   obtain⟨h1,h2⟩:=z7 h;cases j with
   | zero =>
     simp at hj;subst hj;intro k hk;have:=List.all_eq_true.1 h1 k hk;simpa using this
   | succ j =>
     intro k hk;have:=ziz h2 j o (by simpa using hj) k hk;omega
theorem zqq {o:Oper}{k:Nat}:k∈zhz o ↔ ∃ e∈o.after,Region.binds .any e=true/\e.on=k:=by
 simp[zhz,List.mem_map,List.mem_filter,and_assoc]
theorem zlc {all:Array Oper}{listed:Array Bool}{i:Nat}:i∈Region.ready .any all listed ↔ i<all.size/\listed.getD i true=false/\∃ o,all[i]?=some o/\∀ k∈zhz o,listed.getD k false=true:=by
 simp only[Region.ready,List.mem_filter,List.mem_range,Bool.and_eq_true,Bool.not_eq_true'];constructor
 . rintro⟨h1,h2,h3⟩;have ho:all[i]?=some all[i]:=Array.getElem?_eq_getElem h1;rw[ho] at h3;refine⟨h1,h2,_,ho,fun k hk=>?_⟩;obtain⟨e,he,hb,rfl⟩:=zqq.1 hk;have h3':(all[i].after.all fun e=>!Region.binds .any e || listed.getD e.on false)=true:=h3;have:=Array.all_eq_true'.1 h3' e he;rw[hb] at this;exact this
 . rintro⟨h1,h2,o,ho,h3⟩;refine⟨h1,h2,?_⟩;rw[ho];simp only[Option.map_some,Option.getD_some];rw[Array.all_eq_true'];intro e he;cases hb:Region.binds .any e with
   | false=>rfl
   | true=>rw[h3 e.on (zqq.2 ⟨e,he,hb,rfl⟩)];rfl
def left (n:Nat)(listed:Array Bool):List Nat:=(List.range n).filter fun i=>!listed.getD i true
theorem zk7 {n i:Nat}{listed:Array Bool}:i∈left n listed ↔ i<n/\listed.getD i true=false:=by
 unfold left;rw[List.mem_filter,List.mem_range,Bool.not_eq_true']
theorem zp1 {n i:Nat}{listed:Array Bool}(hn:listed.size=n)(hi:i<n)(hl:listed.getD i true=false) :
 ∃ l1 l2,left n listed=l1++i::l2/\left n (listed.setIfInBounds i true)=l1++l2/\∀ j∈l1,j<i:=by
 have hsplit:List.range n=List.range i++i::(List.range' (i+1) (n - i - 1)):=by
  have h1:List.range n=List.range' 0 i++List.range' i (n - i):=by
   rw[List.range_eq_range'];have:=List.range'_append_1 (s:=0) (m:=i) (n:=n - i);rw[Nat.zero_add] at this;rw[this];congr 1;omega
  rw[h1,<- List.range_eq_range'];congr 1;obtain⟨k,hk⟩:∃ k,n - i=k+1:=⟨n - i - 1,by omega⟩
  rw[hk,List.range'_succ];simp
 have hget:∀ j,j≠i->(listed.setIfInBounds i true).getD j true=listed.getD j true:=by
  intro j hj;simp[Array.getD_eq_getD_getElem?,Array.getElem?_setIfInBounds_ne (Ne.symm hj)]
 have hgi:(listed.setIfInBounds i true).getD i true=true:=by
  simp[Array.getD_eq_getD_getElem?]
 refine⟨(List.range i).filter fun j=>!listed.getD j true,(List.range' (i+1) (n - i - 1)).filter fun j=>!listed.getD j true,?_,?_,?_⟩
 . unfold left;rw[hsplit,List.filter_append,List.filter_cons,if_pos (by simp[hl])]
 . unfold left;rw[hsplit,List.filter_append,List.filter_cons,if_neg (by simp[hgi])];congr 1
   . apply List.filter_congr;intro j hj;rw[hget j (by simp at hj;omega)]
   . apply List.filter_congr;intro j hj;rw[hget j (by simp[List.mem_range'] at hj;omega)]
 . intro j hj;simp at hj;exact hj.1
variable {P:Program} {c:Ctx}
theorem z10v {ρ:Option Nat} {all:Array Oper} {Q:Exit->Act->World->Prop} {fps:List FP} {st':List A} (hb:Base P E c) (hok:z108 all.toList fps=true) (hq:∀ a w,Sim c st' a w->Q .normal a w) :
 ∀ (fuel:Nat) (listed:Array Bool) (st:List A) (a:Act) (w:World),listed.size=all.size->(left all.size listed).length<=fuel →
   (∀ j o,all[j]?=some o->listed.getD j false=true->∀ k∈zhz o,listed.getD k false=true) →
   RunI E all fps (left all.size listed) st st'->Sim c st a w->wpAnyIn (FR ρ) 0 P .any all Q fuel listed a w:=by
 obtain⟨hpo,hpairs⟩:=z7 hok;have hpred:=ziz hpo;have hready:∀ listed:Array Bool,listed.size=all.size->Region.ready .any all listed=[]->left all.size listed=[]:=by
  intro listed hsz hr;cases hl:left all.size listed with
  | nil=>rfl
  | cons i l =>
    -- the least one that is left is ready
    exfalso;have himem:i∈left all.size listed:=by rw[hl];simp
    have hi:i<all.size/\listed.getD i true=false:=zk7.1 himem;have hmin:∀ j,j<i->listed.getD j true=true:=by
     intro j hj;obtain⟨l1,l2,h1,_,h3⟩:=zp1 hsz hi.1 hi.2;cases l1 with
     | nil =>
       cases hlj:listed.getD j true with
       | true=>rfl
       | false =>
         have hmem:j∈left all.size listed:=zk7.2 ⟨by omega,hlj⟩;obtain⟨m1,m2,g1,_,g3⟩:=zp1 hsz (by omega:j<all.size) hlj;rw[h1] at g1;cases m1 with
         | nil=>simp at g1;omega
         | cons y m1=>simp at g1;have:=g3 y (by simp);omega
     | cons x l1 =>
       rw[h1] at hl;simp at hl;have:=h3 x (by simp);omega
    have:i∈Region.ready .any all listed:=by
     refine zlc.2 ⟨hi.1,hi.2,all[i],Array.getElem?_eq_getElem hi.1,fun k hk=>?_⟩;have hki:=hpred i all[i] (by rw[Array.getElem?_toList];exact Array.getElem?_eq_getElem hi.1) k hk;have:=hmin k (by omega);have hks:k<listed.size:=by omega
     simpa[Array.getD_eq_getD_getElem?,hks] using this
    rw[hr] at this;cases this
 intro fuel
 induction fuel with
 | zero =>
   intro listed st a w hsz hlen hcl hrun hs;have hnil:left all.size listed=[]:=List.length_eq_zero_iff.1 (by omega);rw[hnil] at hrun;cases hrun;refine⟨?_,hq a w hs⟩;cases hr:Region.ready .any all listed with
   | nil=>rfl
   | cons i l =>
     exfalso;have hi:=zlc.1 (show i∈Region.ready .any all listed by rw[hr];simp);have:i∈left all.size listed:=zk7.2 ⟨hi.1,hi.2.1⟩;rw[hnil] at this;cases this
 | succ fuel ih =>
   intro listed st a w hsz hlen hcl hrun hs;refine⟨fun hr=>?_,fun i hi=>?_⟩
   . rw[hready listed hsz hr] at hrun;cases hrun;exact hq a w hs
   . obtain⟨hil,hl,o,ho,hp⟩:=zlc.1 hi;obtain⟨l1,l2,h1,h2,h3⟩:=zp1 hsz hil hl;rw[h1] at hrun;have hfront:=zul l1 l2 _ _ hrun (fun j hj=>by
      have hji:=h3 j hj;have hjl:listed.getD j true=false:=by
       have:j∈left all.size listed:=by rw[h1];simp[hj]
       exact (zk7.1 this).2
      have hpr:=List.all_eq_true.1 hpairs i (by simpa using hil);have hpj:=List.all_eq_true.1 hpr j (by simpa using hji);unfold z13v at hpj;split at hpj
      . rename_i hcf;exact .inl hcf
      cases hbit:((zzd all.toList []).getD i 0).testBit j with
      | true =>
        exfalso;have hanc:Anc all.toList j i:=by
         cases hm:(zzd all.toList [])[i]? with
         | none=>simp[List.getD,hm] at hbit
         | some m=>exact znu all.toList all.toList [] ⟨[],rfl,rfl⟩ (fun j m i hj _=>by simp at hj) i m j hm (by simpa[List.getD,hm] using hbit)
        have:=zxj hcl hanc (fun o' ho' k hk=>by rw[ho] at ho';cases ho';exact hp k hk);have hjs:j<listed.size:=by omega
        simp[Array.getD_eq_getD_getElem?,hjs] at this hjl;rw[this] at hjl;cases hjl
      | false =>
        right
        rw[hbit] at hpj;dsimp only at hpj;split at hpj
        . rename_i o' ho';exact⟨o',by rw[<- Array.getElem?_toList];exact ho',hpj⟩
        . cases hpj)
     cases hfront with
     | cons ho2 hx hr =>
       rw[ho] at ho2;cases ho2;have hg:=zif hx hb hs;have hnext:∀ a' w',Sim c _ a' w'->wpAnyIn (FR ρ) 0 P .any all Q fuel (listed.setIfInBounds i true) a' w':=fun a' w' hs'=>by
        refine ih _ _ a' w' (by simpa using hsz) (by rw[h2];rw[h1] at hlen;simp at hlen ⊢;omega) ?_ (by rw[h2];exact hr) hs';intro j o' hj hlj k hk;have hset:∀ k,listed.getD k false=true->(listed.setIfInBounds i true).getD k false=true:=by
         intro k hk;by_cases e:i=k
         . subst e;simp[Array.getD_eq_getD_getElem?,show i<listed.size by omega]
         . simpa[Array.getD_eq_getD_getElem?,Array.getElem?_setIfInBounds_ne e] using hk
        by_cases e:i=j
        . subst e;rw[ho] at hj;cases hj;exact hset k (hp k hk)
        . refine hset k (hcl j o' hj ?_ k hk);simpa[Array.getD_eq_getD_getElem?,Array.getElem?_setIfInBounds_ne e] using hlj
       unfold wpOpIn;rw[ho];dsimp only;split
       . rename_i hw;rw[if_pos hw] at hg;exact Oper.wpIn_mono hnext (hg ρ Q)
       . rename_i hw;rw[if_neg hw] at hg;exact⟨fun _ _=>trivial,hnext _ _ hg⟩
theorem zo7 {β:Type}{ops:Array Oper}{id:Nat}{K:List A->Option β}{y:β}{st:List A}(hb:Base P E c)(h:zik E ops ops.toList [] st K=some y) :
 ∃ st',K st'=some y/\∀ (ρ:Option Nat) (Q:Exit->Act->World->Prop) (a:Act) (w:World),Sim c st a w->(∀ a' w',Sim c st' a' w'->Q .normal a' w')->(Code.region id ops true).wpIn (FR ρ) 0 P Q a w:=by
 obtain⟨fps,st',hr,hK,hok⟩:=zrj ops.toList [] st K h;refine⟨st',hK,fun ρ Q a w hs hq=>wpIn_region_any hb.env.mixed ?_⟩;have hlen:fps.length=ops.toList.length:=by
  clear h hK hok hs hq;generalize ops.toList=l at hr
  induction hr with
  | nil=>rfl
  | cons _ _ ih=>simp[ih]
 have hi:=zqj (k:=0) fps hr (fun j=>by rw[Nat.zero_add,Array.getElem?_toList]) (fun j f hj=>by simp[List.getD,hj]);have hl0:left ops.size (Array.replicate ops.size false)=List.range' 0 ops.toList.length:=by
  unfold left;rw[<- List.range_eq_range',Array.length_toList];apply List.filter_eq_self.2;intro i hi;have:i<ops.size:=by simpa using hi
  simp[Array.getD_eq_getD_getElem?,this]
 refine z10v hb (by simpa using hok) hq ops.size _ st a _ (by simp) (by rw[hl0];simp) ?_ (by rw[hl0];exact hi) ?_
 . intro j o hj hlj;exfalso;rcases Nat.lt_or_ge j ops.size with hlt|hge
   . simp[Array.getD_eq_getD_getElem?,hlt] at hlj
   . simp[Array.getD_eq_getD_getElem?,hge] at hlj
 . obtain⟨S,ob,hs⟩:=hs;exact⟨S,ob,hs.world (Sub.refl _) ⟨hs.frame.size,hs.frame.same,hs.frame.tape,hs.frame.os,hs.frame.output⟩⟩
end
end
end Go.Lift
