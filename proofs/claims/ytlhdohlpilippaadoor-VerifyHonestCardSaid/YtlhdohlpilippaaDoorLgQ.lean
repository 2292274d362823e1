import Derived.Test.YtlhdohlpilippaaDoorLgP
set_option linter.all false
namespace Go.Lift
noncomputable section
section
variable {E:Env}
theorem zpr {α:Type}(k:Cmd α):∀ (st:List A) (fp:FP) (r:α×List A×FP),zn E k st fp=some r->fp.all=true->r.2.2.all=true:=by
 induction k with
 | ret a=>intro st fp r h hf;rw[z3c h];exact hf
 | fail=>intro st fp r h;exact (z6 h).elim
 | get t k ih=>intro st fp r h hf;exact ih _ st _ r h hf
 | set t x k ih =>
   intro st fp r h hf;simp only[zn,Cmd.cps] at h;cases hk:z85 E st t x<;>rw[hk] at h
   . simp at h
   . exact ih _ _ r h (by simp[hf])
 | cont t x k ih =>
   intro st fp r h hf;simp only[zn,Cmd.cps] at h;cases hk:Nat.blt t st.length<;>rw[hk] at h
   . simp at h
   . exact ih _ _ r h (by simp[hf])
 | retire t k ih=>intro st fp r h hf;exact ih _ _ r h (by simp[hf])
 | test b x y ihx ihy =>
   intro st fp r h hf;rcases z5w h with⟨_,h⟩|⟨_,h⟩
   . exact ihx st fp r h hf
   . exact ihy st fp r h hf
 | call f args k ih =>
   intro st fp r h hf;obtain⟨x,_,h⟩:=z5x h;exact ih _ _ st fp r h hf
 | guard d x y z ihx ihy ihz =>
   intro st fp r h hf;simp only[zn,Cmd.cps] at h;split at h
   . rename_i b _;cases b
     . exact ihy _ _ r h hf
     . exact ihx _ _ r h hf
   . exact ihz _ _ r h hf
   . cases h
theorem zqn (x:A):z4l x=x.refs:=by cases x<;>rfl
theorem ze1 {r:Nat}:∀ {st:List A},hasRef r st=false->∀ x∈st,r∉z4l x
 | [],_,x,hx=>by cases hx
 | y :: l,h,x,hx=>by
   simp only[hasRef] at h;split at h
   . cases h
   . rename_i hy;rcases List.mem_cons.1 hx with rfl|hx
     . simpa using hy
     . exact ze1 h x hx
theorem zzd {st:List A}{t:Nat}(h:hasRef t st=false):st.map (zjx t)=st:=by
 apply List.ext_getElem?;intro i;rw[List.getElem?_map];cases hz:st[i]? with
 | none=>rfl
 | some z =>
   simp only[Option.map_some];congr 1;rcases zc6 t z with⟨e,_⟩|⟨_,hc⟩
   . exact e
   . exact absurd (by rw[zqn];exact hc) (ze1 h z (List.mem_of_getElem? hz))
theorem z12k {st:List A}{t:Nat}{y:A}(h:hasRef t st=false):st.map (zv3 t y)=st:=by
 apply List.ext_getElem?;intro i;rw[List.getElem?_map];cases hz:st[i]? with
 | none=>rfl
 | some z =>
   simp only[Option.map_some];congr 1;have hn:=ze1 h z (List.mem_of_getElem? hz);cases z<;>simp only[zv3]<;>simp[z4l] at hn
   . rw[beq_false_of_ne (Ne.symm hn)];rfl
   . rw[beq_false_of_ne (Ne.symm hn)];rfl
   . rw[beq_false_of_ne (Ne.symm hn)];rfl
   . rw[show (List.contains _ t)=false by simpa using hn];rfl
   . rw[beq_false_of_ne (Ne.symm hn)];rfl
   . rw[beq_false_of_ne (Ne.symm hn)];rfl
theorem zkz {st:List A}{t:Nat}{x:A}(h:ownRef st t=false):z5n st t x=st.set t x:=by
 unfold ownRef at h;split at h
 . unfold z5n;split<;>simp[zzd h]
 rename_i ho
 replace h:=ho
 unfold z4j at h;unfold z5n;split at h
 . cases h
 . cases h
 . cases h
 . cases h
 . cases h
 . cases h
 . rename_i h1 h2 h3 h4 h5 h6;split
   . rename_i t' xs hy;exact absurd hy (h1 _ _)
   . rename_i t' xs hy;exact absurd hy (h2 _ _)
   . rename_i t' xs hy;exact absurd hy (h3 _ _)
   . rename_i hy;exact absurd hy h4
   . rename_i t' xs hy;exact absurd hy (h5 _ _)
   . rename_i xs hy;exact absurd hy (h6 _)
   . rfl
theorem z2h {st st2:List A}{t:Nat}(h:st2[t]?=st[t]?):z4j st2 t=z4j st t:=by
 unfold z4j;have:st2.getD t .dead=st.getD t .dead:=by simp[List.getD,h]
 rw[this]
theorem zel {st st2:List A}{t:Nat}{x:A}(hl:st2.length=st.length)(h:∀ r∈z4l x,st2[r]?=st[r]?):z85 E st2 t x=z85 E st t x:=by
 unfold z85;rw[hl];have:zwh st2 t x=zwh st t x:=by
  cases x<;>simp only[zwh,z4l,List.mem_singleton,List.not_mem_nil,false_implies,implies_true,forall_eq] at h ⊢
  . rw[z2h h]
  . rw[z2h h]
  . rw[z2h h]
  . rename_i f rs;have:∀ r∈rs,(z1i (!(Nat.beq r t)) (z4j st2 r))=(z1i (!(Nat.beq r t)) (z4j st r)):=fun r hr=>by rw[z2h (h r hr)]
    rw[Bool.eq_iff_iff,List.all_eq_true,List.all_eq_true];exact⟨fun g r hr=>by rw[<- this r hr];exact g r hr,fun g r hr=>by rw[this r hr];exact g r hr⟩
  . rw[z2h h]
  . rw[z2h h]
 rw[this]
theorem zb2 {st:List A}{t i:Nat}{x:A}(h:t<st.length):(st.set t x)[i]?=if i=t then some x else st[i]?:=by
 by_cases hi:i=t
 . subst hi;simp[h]
 . rw[if_neg hi,List.getElem?_set_ne (Ne.symm hi)]
def kL:Bool->A->List Nat
 | true,x=>z14e x
 | false,x=>z4l x
theorem zf9 {c:Bool}{u:Nat}{x:A}(h:u∈kL c x):u∈z4l x:=by
 cases c
 . exact h
 . cases x<;>simp[kL,z14e] at h
   . simp[z4l,h]
   . simp[z4l,h]
   . simp[z4l,h]
def z88 (c:Bool)(u:Nat)(st:List A)(i:Nat):Prop:=∃ x,st[i]?=some x/\u∈kL c x
theorem z3r {u:Nat}:∀ {st:List A},hasRef u st=true ↔ ∃ i,z88 false u st i
 | []=>by simp[hasRef,z88]
 | x :: l=>by
   have ih:=z3r (u:=u) (st:=l);have split:(∃ i,z88 false u (x::l) i) ↔ (u∈z4l x\/∃ i,z88 false u l i):=by
    constructor
    . rintro⟨i,y,h,hy⟩;cases i with
      | zero=>simp at h;subst h;exact .inl hy
      | succ i=>exact .inr ⟨i,y,by simpa using h,hy⟩
    . rintro (h|⟨i,y,h,hy⟩)
      . exact⟨0,x,by simp,h⟩
      . exact⟨i+1,y,by simpa using h,hy⟩
   rw[split,<- ih];simp only[hasRef];cases hc:(z4l x).contains u with
   | true=>simp at hc;simp[hc]
   | false=>simp at hc;simp[hc]
theorem z6f {u:Nat}:∀ {st:List A},hasCel u st=true ↔ ∃ i,z88 true u st i
 | []=>by simp[hasCel,z88]
 | x :: l=>by
   have ih:=z6f (u:=u) (st:=l);have split:(∃ i,z88 true u (x::l) i) ↔ (u∈z14e x\/∃ i,z88 true u l i):=by
    constructor
    . rintro⟨i,y,h,hy⟩;cases i with
      | zero=>simp at h;subst h;exact .inl hy
      | succ i=>exact .inr ⟨i,y,by simpa using h,hy⟩
    . rintro (h|⟨i,y,h,hy⟩)
      . exact⟨0,x,by simp,h⟩
      . exact⟨i+1,y,by simpa using h,hy⟩
   rw[split,<- ih];cases x<;>simp only[hasCel,z14e,List.not_mem_nil,false_or,List.mem_singleton]
   case cel s n p =>
    cases hb:Nat.beq s u with
    | true=>simp[Nat.eq_of_beq_eq_true hb]
    | false =>
      have:¬ u=s:=by intro e;subst e;simp[Nat.beq_refl] at hb
      simp[this]
   case pel s n p v q =>
    cases hb:Nat.beq s u with
    | true=>simp[Nat.eq_of_beq_eq_true hb]
    | false =>
      have:¬ u=s:=by intro e;subst e;simp[Nat.beq_refl] at hb
      simp[this]
   case psl s n p v q lo hi =>
    cases hb:Nat.beq s u with
    | true=>simp[Nat.eq_of_beq_eq_true hb]
    | false =>
      have:¬ u=s:=by intro e;subst e;simp[Nat.beq_refl] at hb
      simp[this]
theorem zjg {st:List A} {r:Nat} {x:A} (h:hasCel r st=false):z1j st r x=st.set r x:=by
 unfold z1j;congr 1;apply List.ext_getElem?;intro i;rw[List.getElem?_map];cases hz:st[i]? with
 | none=>rfl
 | some z =>
   simp only[Option.map_some];congr 1;rcases z9d r z with⟨e,_⟩|⟨_,hc,_⟩
   . exact e
   . exfalso;have:∃ i,z88 true r st i:=by
      cases z<;>simp[A.cell] at hc
      . subst hc;exact⟨i,_,hz,by simp[kL,z14e]⟩
      . subst hc;exact⟨i,_,hz,by simp[kL,z14e]⟩
      . subst hc;exact⟨i,_,hz,by simp[kL,z14e]⟩
     rw[z6f.2 this] at h;cases h
theorem z2f {st:List A}{c:Bool}{t u i:Nat}{x:A}(h:t<st.length):z88 c u (st.set t x) i ↔ if i=t then u∈kL c x else z88 c u st i:=by
 unfold z88;rw[zb2 h];split
 . simp
 . rfl
theorem zij {st:List A}{c:Bool}{u t:Nat}(h:z88 c u st t):u∈z4l (st.getD t .dead):=by
 obtain⟨x,h,hx⟩:=h;have:st.getD t .dead=x:=by simp[List.getD,h]
 rw[this];exact zf9 hx
theorem zfv {st:List A}{t:Nat}(h:hasRef t st=false):z95 st t=match zxl (st.getD t .dead) with
 | some y=>st.set t y
 | none=>st:=by
 unfold z95;split<;>simp_all [z12k h]
theorem zyg {x y:A}(h:zxl x=some y):z4l y=[]/\z4l x=[]:=by
 cases x<;>simp[zxl] at h
 . subst h;exact⟨rfl,rfl⟩
 . split at h
   . cases h;exact⟨rfl,rfl⟩
   . cases h
 . unfold zyi at h;split at h
   . cases h;exact⟨rfl,rfl⟩
   . cases h
   . split at h
     . cases h;exact⟨rfl,rfl⟩
     . cases h
theorem frame {α:Type} (k:Cmd α):∀ (st:List A) (fp:FP) (r:α×List A×FP),zn E k st fp=some r->r.2.2.all=false →
 (∀ t∈fp.rd,t∈r.2.2.rd)/\(∀ t∈fp.wr,t∈r.2.2.wr)/\r.2.1.length=st.length/\(∀ t,t∉r.2.2.wr->r.2.1[t]?=st[t]?)/\(∀ t,t∉r.2.2.rd->∀ c i,z88 c t r.2.1 i ↔ z88 c t st i) ∧
 ∀ st2:List A,st2.length=st.length->(∀ t,t∈r.2.2.rd\/t∈fp.wr->st2[t]?=st[t]?)->(∀ t∈r.2.2.wr,∀ c i,z88 c t st2 i ↔ z88 c t st i) →
   ∃ st2',zn E k st2 fp=some (r.1,st2',r.2.2)/\st2'.length=st.length/\(∀ t∈r.2.2.wr,st2'[t]?=r.2.1[t]?)/\(∀ t,t∉r.2.2.wr->st2'[t]?=st2[t]?):=by
 induction k with
 | ret a =>
   intro st fp r h _;rw[z3c h];exact⟨fun _ h=>h,fun _ h=>h,rfl,fun _ _=>rfl,fun _ _ _ _=>.rfl,fun st2 hl hag _=>⟨st2,rfl,hl,fun t ht=>hag t (.inr ht),fun _ _=>rfl⟩⟩
 | fail=>intro st fp r h;exact (z6 h).elim
 | get t k ih =>
   intro st fp r h ha;obtain⟨h1,h2,h3,h4,h6,h5⟩:=ih _ st _ r h ha;refine⟨fun u hu=>h1 u (by simp[hu]),h2,h3,h4,h6,fun st2 hl hag hce=>?_⟩;obtain⟨st2',g1,g2,g3,g4⟩:=h5 st2 hl hag hce;refine⟨st2',?_,g2,g3,g4⟩;have:st2.getD t .dead=st.getD t .dead:=by
    have:=hag t (.inl (h1 t (by simp)));simp[List.getD,this]
   show zn E (k (st2.getD t .dead)) st2 _=_;rw[this];exact g1
 | set t x k ih =>
   intro st fp r h ha;simp only[zn,Cmd.cps] at h;cases hk:z85 E st t x<;>rw[hk] at h
   . simp at h
   simp only[cond] at h;obtain⟨hlt,_,_⟩:=z2i hk;have hown:ownRef st t=false:=by
    cases ho:ownRef st t with
    | false=>rfl
    | true =>
      have:=zpr k _ _ r h (by simp[ho]);rw[ha] at this;cases this
   rw[hown] at h;rw[zkz hown] at h;obtain⟨h1,h2,h3,h4,h6,h5⟩:=ih (st.set t x) _ r h ha;have hr1:∀ u∈z4l x,u∈r.2.2.rd:=fun u hu=>h1 u (List.mem_append.2 (.inl hu))
   have hr2:∀ u∈z4l (st.getD t .dead),u∈r.2.2.rd:=fun u hu=>h1 u (List.mem_append.2 (.inr (List.mem_append.2 (.inl hu))))
   have hr3:t∈r.2.2.rd:=h1 t (List.mem_append.2 (.inr (List.mem_append.2 (.inr (by simp)))));have hr4:∀ u∈fp.rd,u∈r.2.2.rd:=fun u hu=>h1 u (List.mem_append.2 (.inr (List.mem_append.2 (.inr (by simp[hu])))))
   refine⟨hr4,fun u hu=>h2 u (by simp[hu]),by simpa using h3,fun u hu=>?_,fun u hu c i=>?_,fun st2 hl hag hce=>?_⟩
   . rw[h4 u hu,zb2 hlt,if_neg];intro e;subst e;exact hu (h2 _ (by simp))
   . rw[h6 u hu c i,z2f hlt];split
     . rename_i e;subst e;constructor
       . intro e;exact absurd (hr1 u (zf9 e)) hu
       . intro hc;exact absurd (hr2 u (zij hc)) hu
     . rfl
   . have href:∀ s∈z4l x,st2[s]?=st[s]?:=fun s hs=>hag s (.inl (hr1 s hs))
     have hlt2:t<st2.length:=by omega
     have hagt:st2[t]?=st[t]?:=hag t (.inl hr3);have hgd:st2.getD t .dead=st.getD t .dead:=by simp[List.getD,hagt]
     have htw:t∈r.2.2.wr:=h2 t (by simp);have ho2:ownRef st2 t=false:=by
      unfold ownRef at hown ⊢;rw[z2h hagt];cases ho:z4j st t with
      | false=>rfl
      | true =>
        rw[ho] at hown;dsimp only at hown ⊢;cases hr:hasRef t st2 with
        | false=>rfl
        | true =>
          obtain⟨i,hi⟩:=z3r.1 hr;rw[z3r.2 ⟨i,(hce t htw false i).1 hi⟩] at hown;cases hown
     obtain⟨st2',g1,g2,g3,g4⟩:=h5 (st2.set t x) (by simp[hl]) (fun u hu=>by
      rw[zb2 hlt2,zb2 hlt];by_cases e:u=t
      . rw[if_pos e,if_pos e]
      . rw[if_neg e,if_neg e];rcases hu with hu|hu
        . exact hag u (.inl hu)
        . rcases List.mem_cons.1 hu with hu|hu
          . exact absurd hu e
          . exact hag u (.inr hu)) (fun u hu c i=>by
      rw[z2f hlt2,z2f hlt];split
      . rfl
      . exact hce u hu c i)
     refine⟨st2',?_,by simpa using g2,g3,fun u hu=>?_⟩
     . simp only[zn,Cmd.cps];rw[zel hl href,hk,zkz ho2,ho2,hgd];exact g1
     . rw[g4 u hu,zb2 hlt2,if_neg];intro e;subst e;exact hu (h2 _ (by simp))
 | cont t x k ih =>
   intro st fp r h ha;simp only[zn,Cmd.cps] at h;cases hk:Nat.blt t st.length<;>rw[hk] at h
   . simp at h
   simp only[cond] at h;have hlt:t<st.length:=by simpa using hk
   have hnc:hasCel t st=false:=by
    cases ho:hasCel t st with
    | false=>rfl
    | true =>
      have:=zpr k _ _ r h (by simp[ho]);rw[ha] at this;cases this
   rw[zjg hnc,hnc] at h;obtain⟨h1,h2,h3,h4,h6,h5⟩:=ih (st.set t x) _ r h ha;have hr1:∀ u∈z4l x,u∈r.2.2.rd:=fun u hu=>h1 u (List.mem_append.2 (.inl hu))
   have hr2:∀ u∈z4l (st.getD t .dead),u∈r.2.2.rd:=fun u hu=>h1 u (List.mem_append.2 (.inr (List.mem_append.2 (.inl hu))))
   have hr3:t∈r.2.2.rd:=h1 t (List.mem_append.2 (.inr (List.mem_append.2 (.inr (by simp)))));have hr4:∀ u∈fp.rd,u∈r.2.2.rd:=fun u hu=>h1 u (List.mem_append.2 (.inr (List.mem_append.2 (.inr (by simp[hu])))))
   refine⟨hr4,fun u hu=>h2 u (by simp[hu]),by simpa using h3,fun u hu=>?_,fun u hu c i=>?_,fun st2 hl hag hce=>?_⟩
   . rw[h4 u hu,zb2 hlt,if_neg];intro e;subst e;exact hu (h2 _ (by simp))
   . rw[h6 u hu c i,z2f hlt];split
     . rename_i e;subst e;constructor
       . intro e;exact absurd (hr1 u (zf9 e)) hu
       . intro hc;exact absurd (hr2 u (zij hc)) hu
     . rfl
   . have hlt2:t<st2.length:=by omega
     have htw:t∈r.2.2.wr:=h2 t (by simp);have hnc2:hasCel t st2=false:=by
      cases ho:hasCel t st2 with
      | false=>rfl
      | true =>
        obtain⟨i,hi⟩:=z6f.1 ho;rw[z6f.2 ⟨i,(hce t htw true i).1 hi⟩] at hnc;cases hnc
     have hagt:st2[t]?=st[t]?:=hag t (.inl hr3);have hgd:st2.getD t .dead=st.getD t .dead:=by simp[List.getD,hagt]
     obtain⟨st2',g1,g2,g3,g4⟩:=h5 (st2.set t x) (by simp[hl]) (fun u hu=>by
      rw[zb2 hlt2,zb2 hlt];by_cases e:u=t
      . rw[if_pos e,if_pos e]
      . rw[if_neg e,if_neg e];rcases hu with hu|hu
        . exact hag u (.inl hu)
        . rcases List.mem_cons.1 hu with hu|hu
          . exact absurd hu e
          . exact hag u (.inr hu)) (fun u hu c i=>by
      rw[z2f hlt2,z2f hlt];split
      . rfl
      . exact hce u hu c i)
     refine⟨st2',?_,by simpa using g2,g3,fun u hu=>?_⟩
     . simp only[zn,Cmd.cps];rw[hl,hk,zjg hnc2,hnc2,hgd];exact g1
     . rw[g4 u hu,zb2 hlt2,if_neg];intro e;subst e;exact hu (h2 _ (by simp))
 | retire t k ih =>
   intro st fp r h ha;simp only[zn,Cmd.cps] at h;have hnr:hasRef t st=false:=by
    cases ho:hasRef t st with
    | false=>rfl
    | true =>
      have:=zpr k _ _ r h (by simp[ho]);rw[ha] at this;cases this
   rw[hnr,zfv hnr] at h;cases hv:zxl (st.getD t .dead) with
   | none =>
     rw[hv] at h;obtain⟨h1,h2,h3,h4,h6,h5⟩:=ih st _ r h ha;have hr3:t∈r.2.2.rd:=h1 t (by simp);refine⟨fun u hu=>h1 u (by simp[hu]),fun u hu=>h2 u (by simp[hu]),h3,h4,h6,fun st2 hl hag hce=>?_⟩;have htw:t∈r.2.2.wr:=h2 t (by simp);have hnr2:hasRef t st2=false:=by
      cases ho:hasRef t st2 with
      | false=>rfl
      | true =>
        obtain⟨i,hi⟩:=z3r.1 ho;rw[z3r.2 ⟨i,(hce t htw false i).1 hi⟩] at hnr;cases hnr
     have hagt:st2[t]?=st[t]?:=hag t (.inl hr3);have hgd:st2.getD t .dead=st.getD t .dead:=by simp[List.getD,hagt]
     obtain⟨st2',g1,g2,g3,g4⟩:=h5 st2 hl (fun u hu=>by
      rcases hu with hu|hu
      . exact hag u (.inl hu)
      . rcases List.mem_cons.1 hu with rfl|hu
        . exact hagt
        . exact hag u (.inr hu)) hce
     refine⟨st2',?_,g2,g3,g4⟩;simp only[zn,Cmd.cps];rw[hnr2,zfv hnr2,hgd,hv];exact g1
   | some y =>
     rw[hv] at h;dsimp only at h;obtain⟨hy1,hy2⟩:=zyg hv;have hlt:t<st.length:=by
      rcases Nat.lt_or_ge t st.length with h'|h'
      . exact h'
      . rw[List.getD_eq_getElem?_getD,List.getElem?_eq_none h'] at hv;simp[zxl] at hv
     obtain⟨h1,h2,h3,h4,h6,h5⟩:=ih (st.set t y) _ r h ha;have hr3:t∈r.2.2.rd:=h1 t (by simp);refine⟨fun u hu=>h1 u (by simp[hu]),fun u hu=>h2 u (by simp[hu]),by simpa using h3,fun u hu=>?_,fun u hu c i=>?_,fun st2 hl hag hce=>?_⟩
     . rw[h4 u hu,zb2 hlt,if_neg];intro e;subst e;exact hu (h2 _ (by simp))
     . rw[h6 u hu c i,z2f hlt];split
       . rename_i e;subst e;constructor
         . intro e;have:=zf9 e;rw[hy1] at this;cases this
         . intro hc;have:=zij hc;rw[hy2] at this;cases this
       . rfl
     . have hlt2:t<st2.length:=by omega
       have htw:t∈r.2.2.wr:=h2 t (by simp);have hnr2:hasRef t st2=false:=by
        cases ho:hasRef t st2 with
        | false=>rfl
        | true =>
          obtain⟨i,hi⟩:=z3r.1 ho;rw[z3r.2 ⟨i,(hce t htw false i).1 hi⟩] at hnr;cases hnr
       have hagt:st2[t]?=st[t]?:=hag t (.inl hr3);have hgd:st2.getD t .dead=st.getD t .dead:=by simp[List.getD,hagt]
       obtain⟨st2',g1,g2,g3,g4⟩:=h5 (st2.set t y) (by simp[hl]) (fun u hu=>by
        rw[zb2 hlt2,zb2 hlt];by_cases e:u=t
        . rw[if_pos e,if_pos e]
        . rw[if_neg e,if_neg e];rcases hu with hu|hu
          . exact hag u (.inl hu)
          . rcases List.mem_cons.1 hu with hu|hu
            . exact absurd hu e
            . exact hag u (.inr hu)) (fun u hu c i=>by
        rw[z2f hlt2,z2f hlt];split
        . rfl
        . exact hce u hu c i)
       refine⟨st2',?_,by simpa using g2,g3,fun u hu=>?_⟩
       . simp only[zn,Cmd.cps];rw[hnr2,zfv hnr2,hgd,hv];exact g1
       . rw[g4 u hu,zb2 hlt2,if_neg];intro e;subst e;exact hu (h2 _ (by simp))
 | test b x y ihx ihy =>
   intro st fp r h ha;cases b with
   | true=>exact ihx st fp r h ha
   | false=>exact ihy st fp r h ha
 | call f args k ih =>
   intro st fp r h ha;obtain⟨x,hv,h⟩:=z5x h;obtain⟨h1,h2,h3,h4,h6,h5⟩:=ih _ _ st fp r h ha;refine⟨h1,h2,h3,h4,h6,fun st2 hl hag hce=>?_⟩;obtain⟨st2',g1,g2,g3,g4⟩:=h5 st2 hl hag hce;refine⟨st2',?_,g2,g3,g4⟩;simp only[zn,Cmd.cps,hv,Option.bind_some];exact g1
 | guard d x y z ihx ihy ihz =>
   intro st fp r h ha;simp only[zn,Cmd.cps] at h;have key:∀ (k:Cmd α) (ih:∀ (st:List A) (fp:FP) (r:α×List A×FP),zn E k st fp=some r->r.2.2.all=false →
    (∀ t∈fp.rd,t∈r.2.2.rd)/\(∀ t∈fp.wr,t∈r.2.2.wr)/\r.2.1.length=st.length/\(∀ t,t∉r.2.2.wr->r.2.1[t]?=st[t]?)/\(∀ t,t∉r.2.2.rd->∀ c i,z88 c t r.2.1 i ↔ z88 c t st i) ∧
    ∀ st2:List A,st2.length=st.length->(∀ t,t∈r.2.2.rd\/t∈fp.wr->st2[t]?=st[t]?)->(∀ t∈r.2.2.wr,∀ c i,z88 c t st2 i ↔ z88 c t st i) →
      ∃ st2',zn E k st2 fp=some (r.1,st2',r.2.2)/\st2'.length=st.length/\(∀ t∈r.2.2.wr,st2'[t]?=r.2.1[t]?)/\(∀ t,t∉r.2.2.wr->st2'[t]?=st2[t]?)),
    zn E k st { fp with rd:=d::fp.rd }=some r->(∀ st2:List A,st2.getD d .dead=st.getD d .dead->zn E (.guard d x y z) st2 fp=zn E k st2 { fp with rd:=d::fp.rd }) →
    (∀ t∈fp.rd,t∈r.2.2.rd)/\(∀ t∈fp.wr,t∈r.2.2.wr)/\r.2.1.length=st.length/\(∀ t,t∉r.2.2.wr->r.2.1[t]?=st[t]?)/\(∀ t,t∉r.2.2.rd->∀ c i,z88 c t r.2.1 i ↔ z88 c t st i) ∧
    ∀ st2:List A,st2.length=st.length->(∀ t,t∈r.2.2.rd\/t∈fp.wr->st2[t]?=st[t]?)->(∀ t∈r.2.2.wr,∀ c i,z88 c t st2 i ↔ z88 c t st i) →
      ∃ st2',zn E (.guard d x y z) st2 fp=some (r.1,st2',r.2.2)/\st2'.length=st.length/\(∀ t∈r.2.2.wr,st2'[t]?=r.2.1[t]?)/\(∀ t,t∉r.2.2.wr->st2'[t]?=st2[t]?):=by
    intro k ih hk hsame;obtain⟨h1,h2,h3,h4,h6,h5⟩:=ih st _ r hk ha;refine⟨fun u hu=>h1 u (by simp[hu]),h2,h3,h4,h6,fun st2 hl hag hce=>?_⟩;obtain⟨st2',g1,g2,g3,g4⟩:=h5 st2 hl hag hce;refine⟨st2',?_,g2,g3,g4⟩;have:st2.getD d .dead=st.getD d .dead:=by
     have:=hag d (.inl (h1 d (by simp)));simp[List.getD,this]
    rw[hsame st2 this];exact g1
   split at h
   . rename_i b hb;cases b
     . simp only[cond] at h;rw[zbs hb (by simp)] at h;refine key y ihy h fun st2 hst=>?_
       rw[hb] at hst;simp only[zn,Cmd.cps,hst,cond,zbs hst (by simp)]
     . simp only[cond] at h;rw[zbs hb (by simp)] at h;refine key x ihx h fun st2 hst=>?_
       rw[hb] at hst;simp only[zn,Cmd.cps,hst,cond,zbs hst (by simp)]
   . rename_i hb;refine key z ihz h fun st2 hst=>?_
     rw[hb] at hst;simp only[zn,Cmd.cps,hst]
   . cases h
theorem z9c:∀ {l m:List Nat},meets l m=false->∀ t∈l,t∉m
 | [],_,_,t,ht=>by cases ht
 | x :: l,m,h,t,ht=>by
   simp only[meets] at h;split at h
   . cases h
   . rename_i hx;rcases List.mem_cons.1 ht with rfl|ht
     . simpa using hx
     . exact z9c h t ht
theorem zn5 {f g:FP}(h:zhb f g=false):f.all=false/\g.all=false/\(∀ t∈f.wr,t∉g.rd)/\(∀ t∈f.wr,t∉g.wr)/\(∀ t∈g.wr,t∉f.rd):=by
 simp only[zhb,Bool.or_eq_false_iff] at h;exact⟨h.1,h.2.1,z9c h.2.2.1,z9c h.2.2.2.1,z9c h.2.2.2.2⟩
theorem z18l {α:Type}{k1 k2:Cmd α}{x1 x2:α}{st st1 st2:List A}{f1 f2:FP}(h1:zn E k1 st fp0=some (x1,st1,f1))(h2:zn E k2 st1 fp0=some (x2,st2,f2))(hc:zhb f1 f2=false) :
 ∃ st1',zn E k2 st fp0=some (x2,st1',f2)/\zn E k1 st1' fp0=some (x1,st2,f1):=by
 obtain⟨a1,a2,c1,c2,c3⟩:=zn5 hc;obtain⟨_,_,l1,s1,q1,fr1⟩:=frame k1 st fp0 _ h1 a1;obtain⟨_,_,l2,s2,q2,fr2⟩:=frame k2 st1 fp0 _ h2 a2;dsimp only at l1 s1 q1 fr1 l2 s2 q2 fr2;obtain⟨st1',g1,g2,g3,g4⟩:=fr2 st l1.symm (fun t ht=>by
  rcases ht with ht|ht
  . exact (s1 t (fun hw=>c1 t hw ht)).symm
  . cases ht) (fun t ht c i=>(q1 t (c3 t ht) c i).symm)
 obtain⟨_,_,_,_,q3,_⟩:=frame k2 st fp0 _ g1 a2;dsimp only at q3;obtain⟨st2',k1',k2',k3,k4⟩:=fr1 st1' (by omega) (fun t ht=>by
  rcases ht with ht|ht
  . exact g4 t (fun hw=>c3 t hw ht)
  . cases ht) (fun t ht c i=>q3 t (c1 t ht) c i)
 refine⟨st1',g1,?_⟩;have:st2'=st2:=by
  apply List.ext_getElem?;intro t;by_cases ht1:t∈f1.wr
  . rw[k3 t ht1,s2 t (c2 t ht1)]
  . rw[k4 t ht1];by_cases ht2:t∈f2.wr
    . exact g3 t ht2
    . rw[g4 t ht2,s2 t ht2,s1 t ht1]
 rw[this] at k1';exact k1'
inductive RunI (E:Env) (all:Array Oper) (fps:List FP):List Nat->List A->List A->Prop
 | nil {st:List A}:RunI E all fps [] st st
 | cons {i:Nat} {o:Oper} {l:List Nat} {st st1 st2:List A} (ho:all[i]?=some o) (h:zn E (z45 E all o) st fp0=some ((),st1,fps.getD i fp0)) (hr:RunI E all fps l st1 st2):RunI E all fps (i::l) st st2
theorem zqh {all:Array Oper}:∀ {l:List Oper} {fs:List FP} {st st':List A} (k:Nat) (fps:List FP),Run E all l fs st st'->(∀ j,l[j]?=all[k+j]?)->(∀ j f,fs[j]?=some f->fps.getD (k+j) fp0=f) →
 RunI E all fps (List.range' k l.length) st st'
 | [],_,_,_,k,fps,.nil,_,_=>.nil
 | o::l,f::fs,st,st',k,fps,.cons h hr,hl,hf=>by
   rw[List.length_cons,List.range'_succ];have h0:fps.getD k fp0=f:=by simpa using hf 0 f rfl
   refine .cons (by simpa using (hl 0).symm) (by rw[h0];exact h) (zqh (k+1) fps hr (fun j=>?_) (fun j g hj=>?_))
   . have:=hl (j+1);simpa[Nat.add_assoc,Nat.add_comm 1 j] using this
   . have:=hf (j+1) g (by simpa using hj);simpa[Nat.add_assoc,Nat.add_comm 1 j] using this
theorem z3d {α:Type}(k:Cmd α):∀ (st:List A) (fp:FP) (r:α×List A×FP),zn E k st fp=some r->(∀ u∈fp.rd,u∈r.2.2.rd)/\(∀ u∈fp.wr,u∈r.2.2.wr)/\(∀ u∈fp.ow,u∈r.2.2.ow):=by
 induction k with
 | ret a=>intro st fp r h;rw[z3c h];exact⟨fun _ h=>h,fun _ h=>h,fun _ h=>h⟩
 | fail=>intro st fp r h;exact (z6 h).elim
 | get t k ih =>
   intro st fp r h;obtain⟨h1,h2,h3⟩:=ih _ st _ r h;exact⟨fun u hu=>h1 u (by simp[hu]),h2,h3⟩
 | set t x k ih =>
   intro st fp r h;simp only[zn,Cmd.cps] at h;cases hk:z85 E st t x<;>rw[hk] at h
   . simp at h
   obtain⟨h1,h2,h3⟩:=ih _ _ r h;exact⟨fun u hu=>h1 u (List.mem_append.2 (.inr (List.mem_append.2 (.inr (by simp[hu]))))),fun u hu=>h2 u (by simp[hu]),fun u hu=>h3 u (by simp[hu])⟩
 | cont t x k ih =>
   intro st fp r h;simp only[zn,Cmd.cps] at h;cases hk:Nat.blt t st.length<;>rw[hk] at h
   . simp at h
   obtain⟨h1,h2,h3⟩:=ih _ _ r h;exact⟨fun u hu=>h1 u (List.mem_append.2 (.inr (List.mem_append.2 (.inr (by simp[hu]))))),fun u hu=>h2 u (by simp[hu]),fun u hu=>h3 u (by cases x.own<;>simp[hu])⟩
 | retire t k ih =>
   intro st fp r h;obtain⟨h1,h2,h3⟩:=ih _ _ r h;exact⟨fun u hu=>h1 u (by simp[hu]),fun u hu=>h2 u (by simp[hu]),fun u hu=>h3 u (by simp[hu])⟩
 | test b x y ihx ihy =>
   intro st fp r h;rcases z5w h with⟨_,h⟩|⟨_,h⟩
   . exact ihx st fp r h
   . exact ihy st fp r h
 | call f args k ih =>
   intro st fp r h;obtain⟨x,_,h⟩:=z5x h;exact ih _ _ st fp r h
 | guard d x y z ihx ihy ihz =>
   intro st fp r h;simp only[zn,Cmd.cps] at h;split at h
   . rename_i b _;cases b
     . obtain⟨h1,h2,h3⟩:=ihy _ _ r h;exact⟨fun u hu=>h1 u (by simp[hu]),h2,h3⟩
     . obtain⟨h1,h2,h3⟩:=ihx _ _ r h;exact⟨fun u hu=>h1 u (by simp[hu]),h2,h3⟩
   . obtain⟨h1,h2,h3⟩:=ihz _ _ r h;exact⟨fun u hu=>h1 u (by simp[hu]),h2,h3⟩
   . cases h
theorem z8o {α:Type}{u:Nat}{x y z:Cmd α}{st:List A}{fp:FP}{r:α×List A×FP}(h:zn E (.guard u x y z) st fp=some r):u∈r.2.2.rd:=by
 simp only[zn,Cmd.cps] at h;split at h
 . rename_i b _;cases b
   . exact (z3d _ _ _ r h).1 u (by simp)
   . exact (z3d _ _ _ r h).1 u (by simp)
 . exact (z3d _ _ _ r h).1 u (by simp)
 . cases h
theorem zlz {st:List A}{d t u:Nat}{y:A}(hd:d<st.length)(hy0:st[d]?=some y)(hy:z4l y=[])(hu:u≠t):hasRef u (st.set d (.bor t))=hasRef u st:=by
 rw[Bool.eq_iff_iff,z3r,z3r];constructor
 . rintro⟨i,h⟩;rw[z2f hd] at h;split at h
   . simp[kL,z4l] at h;exact absurd h hu
   . exact⟨i,h⟩
 . rintro⟨i,h⟩;refine⟨i,(z2f hd).2 ?_⟩;split
   . rename_i e;subst e;obtain⟨z,h1,h2⟩:=h;rw[hy0] at h1;cases h1;have:=zf9 h2;rw[hy] at this;cases this
   . exact h
theorem ztb {st:List A}{d t u:Nat}{y:A}(hd:d<st.length)(hy0:st[d]?=some y)(hy:z4l y=[]):hasCel u (st.set d (.bor t))=hasCel u st:=by
 rw[Bool.eq_iff_iff,z6f,z6f];constructor
 . rintro⟨i,h⟩;rw[z2f hd] at h;split at h
   . simp[kL,z14e] at h
   . exact⟨i,h⟩
 . rintro⟨i,h⟩;refine⟨i,(z2f hd).2 ?_⟩;split
   . rename_i e;subst e;obtain⟨z,h1,h2⟩:=h;rw[hy0] at h1;cases h1;have:=zf9 h2;rw[hy] at this;cases this
   . exact h
theorem z3b {st:List A}{d u:Nat}{x:A}(h:u≠d):(st.set d x).getD u .dead=st.getD u .dead:=by
 rw[List.getD_eq_getElem?_getD,List.getD_eq_getElem?_getD,List.getElem?_set_ne (Ne.symm h)]
theorem zst {st:List A}{d t u:Nat}{y:A}(hd:d<st.length)(hy0:st[d]?=some y)(hy:z4l y=[])(hu:u≠t)(hud:u≠d):ownRef (st.set d (.bor t)) u=ownRef st u:=by
 unfold ownRef;rw[z2h (List.getElem?_set_ne (Ne.symm hud)),zlz hd hy0 hy hu]
theorem zb6 {st:List A}{t:Nat}:z4j st t=(st.getD t .dead).own:=by
 unfold z4j;cases st.getD t .dead<;>rfl
theorem z129 {x:A}(h:x.own=true):x.refs=[]:=by cases x<;>simp_all [A.own,A.refs]
theorem zzn {u:Nat}{x:A}(h:x.own=true):zjx u x=x:=by
 rcases zc6 u x with⟨e,_⟩|⟨_,hc⟩
 . exact e
 . rw[z129 h] at hc;cases hc
theorem zwu {u:Nat}{x:A}(h:x.own=true):zgz u x=x:=by
 cases x<;>simp_all [A.own,zgz]
theorem z121 {u:Nat}{y x:A}(h:x.own=true):zv3 u y x=x:=by
 cases x<;>simp_all [A.own,zv3]
theorem zia {u:Nat}{x:A}(h:z4l x=[]):zjx u x=x:=by
 rcases zc6 u x with⟨e,_⟩|⟨_,hc⟩
 . exact e
 . rw[<- zqn,h] at hc;cases hc
theorem zi9 {u:Nat}{x:A}(h:z4l x=[]):zgz u x=x:=by
 cases x<;>simp_all [z4l,zgz]
theorem zl7 {u:Nat}{y x:A}(h:z4l x=[]):zv3 u y x=x:=by
 cases x<;>simp_all [z4l,zv3]
theorem zox (f:A->A){st:List A}{d t:Nat}{y:A}(hd:d<st.length)(hy0:st[d]?=some y)(hfy:f y=y)(hft:f (.bor t)=.bor t)(htd:t≠d)(ho:z4j st t=true)(hfo:∀ x:A,x.own=true->f x=x) :
 (st.set d (.bor t)).map f=(st.map f).set d (.bor t)/\(st.map f)[d]?=some y/\z4j (st.map f) t=true:=by
 refine⟨by rw[List.map_set,hft],by rw[List.getElem?_map,hy0,Option.map_some,hfy],?_⟩;rw[zb6] at ho ⊢;have h1:(st.map f).getD t .dead=st.getD t .dead:=by
  rw[List.getD_eq_getElem?_getD,List.getD_eq_getElem?_getD,List.getElem?_map];rw[List.getD_eq_getElem?_getD] at ho;cases hz:st[t]? with
  | none=>rw[hz] at ho;cases ho
  | some z =>
    rw[hz] at ho;simp only[Option.map_some,Option.getD_some] at ho ⊢;exact hfo z ho
 rw[h1];exact ho
theorem zzo {u t:Nat}(h:u≠t):zjx u (.bor t)=.bor t:=by
 simp only[zjx];rw[beq_false_of_ne (Ne.symm h)];rfl
theorem z122 {u t:Nat}{y:A}(h:u≠t):zv3 u y (.bor t)=.bor t:=by
 simp only[zv3];rw[beq_false_of_ne (Ne.symm h)];rfl
theorem zwd {st:List A}{d t u:Nat}{x y:A}(hd:d<st.length)(hy0:st[d]?=some y)(hy:z4l y=[])(htd:t≠d)(ho:z4j st t=true)(hu:u≠t)(hud:u≠d) :
 z5n (st.set d (.bor t)) u x=(z5n st u x).set d (.bor t)/\(z5n st u x)[d]?=some y/\z4j (z5n st u x) t=true:=by
 obtain⟨m1,m2,m3⟩:=zox (zjx u) hd hy0 (zia hy) (zzo hu) htd ho (fun _ h=>zzn h);unfold z5n;rw[z3b hud];split
 all_goals
  refine⟨?_,?_,?_⟩
  first
   | rw[m1,List.set_comm _ _ (Ne.symm hud)]
   | rw[List.set_comm _ _ (Ne.symm hud)]
  first
   | (rw[List.getElem?_set_ne hud];exact m2)
   | (rw[List.getElem?_set_ne hud];exact hy0)
  first
   | (rw[z2h (List.getElem?_set_ne hu)];exact m3)
   | (rw[z2h (List.getElem?_set_ne hu)];exact ho)
theorem ztl {st:List A}{d t u:Nat}{x y:A}(hd:d<st.length)(hy0:st[d]?=some y)(hy:z4l y=[])(htd:t≠d)(ho:z4j st t=true)(hu:u=t->x.own=true)(hul:u<st.length)(hud:u≠d) :
 z1j (st.set d (.bor t)) u x=(z1j st u x).set d (.bor t)/\(z1j st u x)[d]?=some y/\z4j (z1j st u x) t=true:=by
 obtain⟨m1,m2,m3⟩:=zox (zgz u) hd hy0 (zi9 hy) rfl htd ho (fun _ h=>zwu h);unfold z1j;refine⟨by rw[m1,List.set_comm _ _ (Ne.symm hud)],by rw[List.getElem?_set_ne hud];exact m2,?_⟩;by_cases e:u=t
 . subst e;rw[zb6,List.getD_eq_getElem?_getD,List.getElem?_set_self (by simpa using hul)];exact hu rfl
 . rw[z2h (List.getElem?_set_ne e)];exact m3
theorem zwe {st:List A}{d t u:Nat}{y:A}(hd:d<st.length)(hy0:st[d]?=some y)(hy:z4l y=[])(htd:t≠d)(ho:z4j st t=true)(hu:u≠t)(hud:u≠d) :
 z95 (st.set d (.bor t)) u=(z95 st u).set d (.bor t)/\(z95 st u)[d]?=some y/\z4j (z95 st u) t=true:=by
 unfold z95;rw[z3b hud];split
 . rename_i z _;obtain⟨m1,m2,m3⟩:=zox (zv3 u z) hd hy0 (zl7 hy) (z122 hu) htd ho (fun _ h=>z121 h);exact⟨by rw[m1,List.set_comm _ _ (Ne.symm hud)],by rw[List.getElem?_set_ne hud];exact m2,by rw[z2h (List.getElem?_set_ne hu)];exact m3⟩
 . exact⟨rfl,hy0,ho⟩
theorem slip {α:Type} {d t:Nat} {y:A} (hy:z4l y=[]) (htd:t≠d) (k:Cmd α):∀ (st:List A) (fp:FP) (r:α×List A×FP),zn E k (st.set d (.bor t)) fp=some r->d<st.length->st[d]?=some y->z4j st t=true →
 d∉r.2.2.rd->d∉r.2.2.wr->t∉r.2.2.ow->∃ st2,zn E k st fp=some (r.1,st2,r.2.2)/\r.2.1=st2.set d (.bor t)/\st2[d]?=some y/\z4j st2 t=true/\st2.length=st.length:=by
 induction k with
 | ret a =>
   intro st fp r h hd hy0 ho _ _ _;rw[z3c h];exact⟨st,rfl,rfl,hy0,ho,rfl⟩
 | fail=>intro st fp r h;exact (z6 h).elim
 | get u k ih =>
   intro st fp r h hd hy0 ho h1 h2 h3;have hmem:u∈r.2.2.rd:=(z3d (k _) _ { fp with rd:=u::fp.rd,rr:=(z4l ((st.set d (.bor t)).getD u .dead)).append fp.rr } r h).1 u (by simp);have hud:u≠d:=fun e=>h1 (e ▸ hmem)
   have hg:(st.set d (.bor t)).getD u .dead=st.getD u .dead:=z3b hud;have h':zn E (k (st.getD u .dead)) (st.set d (.bor t)) { fp with rd:=u::fp.rd,rr:=(z4l (st.getD u .dead)).append fp.rr }=some r:=by rw[<- hg];exact h
   exact ih _ st _ r h' hd hy0 ho h1 h2 h3
 | set u x k ih =>
   intro st fp r h hd hy0 ho h1 h2 h3;simp only[zn,Cmd.cps] at h;cases hk:z85 E (st.set d (.bor t)) u x<;>rw[hk] at h
   . simp at h
   simp only[cond] at h;obtain⟨m1,m2,m3⟩:=z3d k _ _ r h;have hud:u≠d:=fun e=>h2 (by subst e;exact m2 _ (by simp))
   have hut:u≠t:=fun e=>h3 (by subst e;exact m3 _ (by simp))
   have hxr:∀ s∈z4l x,s≠d:=fun s hs e=>h1 (by subst e;exact m1 _ (List.mem_append.2 (.inl hs)))
   obtain⟨e1,e2,e3⟩:=zwd (x:=x) hd hy0 hy htd ho hut hud;have hk':z85 E st u x=true:=by
    rw[<- hk];exact (zel (by simp) (fun s hs=>List.getElem?_set_ne (Ne.symm (hxr s hs)))).symm
   rw[e1,zst hd hy0 hy hut hud,z3b hud] at h;obtain⟨st2,g1,g2,g3,g4,g5⟩:=ih _ _ r h (by rw[z1u];exact hd) e2 e3 h1 h2 h3;refine⟨st2,?_,g2,g3,g4,by rw[g5,z1u]⟩;simp only[zn,Cmd.cps];rw[hk'];exact g1
 | cont u x k ih =>
   intro st fp r h hd hy0 ho h1 h2 h3;simp only[zn,Cmd.cps] at h;cases hk:Nat.blt u (st.set d (.bor t)).length<;>rw[hk] at h
   . simp at h
   simp only[cond] at h;obtain⟨m1,m2,m3⟩:=z3d k _ _ r h;have hud:u≠d:=fun e=>h2 (by subst e;exact m2 _ (by simp))
   have hut:u=t->x.own=true:=by
    intro e;cases hx:x.own with
    | true=>rfl
    | false=>exact absurd (m3 t (by rw[hx,e];simp)) h3
   have hul:u<st.length:=by simpa using hk
   obtain⟨e1,e2,e3⟩:=ztl (x:=x) hd hy0 hy htd ho hut hul hud;rw[e1,ztb hd hy0 hy,z3b hud] at h;obtain⟨st2,g1,g2,g3,g4,g5⟩:=ih _ _ r h (by simpa[z1j] using hd) e2 e3 h1 h2 h3;refine⟨st2,?_,g2,g3,g4,by rw[g5];simp[z1j]⟩;simp only[zn,Cmd.cps];rw[show Nat.blt u st.length=true by simpa using hul];exact g1
 | retire u k ih =>
   intro st fp r h hd hy0 ho h1 h2 h3;simp only[zn,Cmd.cps] at h;obtain⟨m1,m2,m3⟩:=z3d k _ _ r h;have hud:u≠d:=fun e=>h2 (by subst e;exact m2 _ (by simp))
   have hut:u≠t:=fun e=>h3 (by subst e;exact m3 _ (by simp))
   obtain⟨e1,e2,e3⟩:=zwe hd hy0 hy htd ho hut hud;rw[e1,zlz hd hy0 hy hut] at h;obtain⟨st2,g1,g2,g3,g4,g5⟩:=ih _ _ r h (by rw[z39];exact hd) e2 e3 h1 h2 h3;exact⟨st2,g1,g2,g3,g4,by rw[g5,z39]⟩
 | test b x y' ihx ihy =>
   intro st fp r h;cases b with
   | true=>exact ihx st fp r h
   | false=>exact ihy st fp r h
 | call f args k ih =>
   intro st fp r h hd hy0 ho h1 h2 h3;obtain⟨x,hv,h⟩:=z5x h;obtain⟨st2,g1,g⟩:=ih _ _ st fp r h hd hy0 ho h1 h2 h3;refine⟨st2,?_,g⟩;simp only[zn,Cmd.cps,hv,Option.bind_some];exact g1
 | guard u x y' z ihx ihy ihz =>
   intro st fp r h hd hy0 ho h1 h2 h3;have hud:u≠d:=fun e=>h1 (by subst e;exact (z8o h))
   simp only[zn,Cmd.cps] at h ⊢;rw[z3b hud] at h;split at h
   . rename_i b hb;have hut:u≠t:=by
      intro e;subst e;rw[zb6,hb] at ho;cases ho
     have key:∀ v:A,(st.set d (.bor t)).set u v=(st.set u v).set d (.bor t):=fun v=>List.set_comm _ _ (Ne.symm hud)
     have k1:∀ v:A,(st.set u v)[d]?=some y:=fun v=>by rw[List.getElem?_set_ne hud];exact hy0
     have k2:∀ v:A,z4j (st.set u v) t=true:=fun v=>by rw[z2h (List.getElem?_set_ne hut)];exact ho
     cases b<;>simp only[cond] at h ⊢
     . rw[key] at h;obtain⟨st2,g1,g2,g3,g4,g5⟩:=ihy _ _ r h (by simpa using hd) (k1 _) (k2 _) h1 h2 h3;exact⟨st2,g1,g2,g3,g4,by rw[g5];simp⟩
     . rw[key] at h;obtain⟨st2,g1,g2,g3,g4,g5⟩:=ihx _ _ r h (by simpa using hd) (k1 _) (k2 _) h1 h2 h3;exact⟨st2,g1,g2,g3,g4,by rw[g5];simp⟩
   . exact ihz _ _ r h hd hy0 ho h1 h2 h3
   . cases h
theorem zp0 {d:Nat}{a:A}{z st1:List A}{p f:FP}(h:(lay (some d) a).cps E z p (fun a st fp=>some (a,st,fp))=some ((),st1,f)):f.bo=(z1a9 a).append p.bo/\p.rd.length+(z4l a).length+1<=f.rd.length:=by
 simp only[lay,Cmd.cps] at h;cases hk:z85 E z d a<;>rw[hk] at h
 . simp at h
 simp only[cond,Option.some.injEq,Prod.mk.injEq,true_and] at h;obtain⟨_,rfl⟩:=h;refine⟨rfl,?_⟩;simp;omega
theorem z12g {d t:Nat} {st st1:List A} {f:FP} (h:zn E (rdK E (.tmp t) fun a=>(match a with
 | .bor r=>.get r fun c=>(match c with
   | .row t xs=>.retire r (lay (some d) (.v (.sl t) xs))
   | _=>lay (some d) a)
 | _=>lay (some d) a)) st fp0=some ((),st1,f)) (hb:f.bo=[t]):4<=f.rd.length:=by
 have far:∀ r (q:List Nat),(match st.getD r .dead with
  | .row t xs=>Cmd.retire r (lay (some d) (.v (.sl t) xs))
  | _=>lay (some d) (.bor r)).cps E st { fp0 with rd:=[r,t],rr:=q } (fun a st fp=>some (a,st,fp))=some ((),st1,f)->4<=f.rd.length:=by
  intro r q h;split at h
  . simp only[Cmd.cps] at h;obtain⟨h1,h2⟩:=zp0 h;rw[hb] at h1;simp[z1a9,fp0] at h1
  . obtain⟨h1,h2⟩:=zp0 h;simpa[z4l] using h2
 have near:∀ (a:A) (q:List Nat),z1a9 a=[]->(lay (some d) a).cps E st { fp0 with rd:=[t],rr:=q } (fun a st fp=>some (a,st,fp))=some ((),st1,f)->4<=f.rd.length:=by
  intro a q ha h;obtain⟨h1,h2⟩:=zp0 h;rw[hb,ha] at h1;simp[fp0] at h1
 unfold zn at h;simp only[Cmd.cps,rdK] at h;cases hz:st.getD t .dead<;>rw[hz] at h<;>simp only[Cmd.cps] at h<;>first|exact far _ _ h|exact near _ _ rfl h|cases h
theorem zwb {all:Array Oper}{o:Oper}{k:Cmd Unit}{st st1 st2:List A}{f g:FP}(h1:zn E (z45 E all o) st fp0=some ((),st1,f))(h2:zn E k st1 fp0=some ((),st2,g))(hc:z15s o f g=true) :
 ∃ st1',zn E k st fp0=some ((),st1',g)/\zn E (z45 E all o) st1' fp0=some ((),st2,f):=by
 unfold z15s at hc;split at hc
 . rename_i t d ho hdst hgd;obtain⟨c1,c2⟩:=z7 hc;obtain⟨c3,c4⟩:=z7 c1;obtain⟨c5,c6⟩:=z7 c4;obtain⟨c7,c8⟩:=z7 c6;obtain⟨c9,c10⟩:=z7 c2;obtain⟨c11,c12⟩:=z7 c10;obtain⟨c13,c14⟩:=z7 c12;have frd:=of_decide_eq_true c3;have fbo:=of_decide_eq_true c5;have fov:f.ov=false:=by simpa using c7
   have fall:f.all=false:=by simpa using c8
   have htd:t≠d:=by intro e;subst e;simp at c9
   have hbt:∀ u,E.boxT d≠some (.sl u):=by
    intro u hu;unfold z45 z1x at h1;rw[hgd,ho,hdst] at h1;simp only[Option.bind_some,hu] at h1;have h4:=z12g h1 fbo;rw[frd] at h4;simp at h4
   have e0:∀ st:List A,zn E (z45 E all o) st fp0=zn E (rdK E (.tmp t) fun a=>lay (some d) a) st fp0:=by
    intro st;unfold z45 z1x;rw[hgd,ho,hdst];simp only[Option.bind_some]
   have eo:∀ st:List A,z4j st t=true->zn E (z45 E all o) st fp0=zn E (.set d (.bor t) (.ret ())) st { fp0 with rd:=[t] }:=by
    intro st hst;rw[e0];rw[zb6] at hst;simp only[zn,Cmd.cps,rdK];cases hz:st.getD t .dead<;>rw[hz] at hst<;>first|rfl|(simp[A.own] at hst)
   obtain⟨a,q,ha⟩:∃ a q,zn E (.set d a (.ret ())) st { fp0 with rd:=[t],rr:=q }=some ((),st1,f):=by
    rw[e0] at h1;simp only[zn,Cmd.cps,rdK] at h1;cases hy:st.getD t .dead<;>rw[hy] at h1<;>first|exact⟨_,_,h1⟩|(simp[Cmd.cps] at h1)
   simp only[zn,Cmd.cps] at ha;cases hk:z85 E st d a<;>rw[hk] at ha
   . simp at ha
   simp only[cond,Option.some.injEq,Prod.mk.injEq,true_and] at ha;obtain⟨es,ef⟩:=ha;have hat:a=.bor t:=by
    have hb:z1a9 a++[]=[t]:=by rw[<- fbo,<- ef];rfl
    cases a<;>simp[z1a9] at hb
    rw[hb]
   subst hat;have hok:=hk;unfold z85 at hok;obtain⟨k1,k2⟩:=z7 hok;obtain⟨k3,k4⟩:=z7 k1;have hd:d<st.length:=by simpa using k3
   have hown:z4j st t=true:=(z7 k2).2;have h1':=h1;rw[eo st hown] at h1';simp only[zn,Cmd.cps] at h1';rw[hk] at h1';simp only[cond,Option.some.injEq,Prod.mk.injEq,true_and] at h1';clear ef;obtain⟨_,ef⟩:=h1';obtain⟨y,hy0⟩:∃ y,st[d]?=some y:=⟨_,List.getElem?_eq_getElem hd⟩
   have hyd:st.getD d .dead=y:=by rw[List.getD_eq_getElem?_getD,hy0];rfl
   have hyr:z4l y=[]:=by
    have hb:[t]++(z4l y++[d,t])=[t,d,t]:=by rw[<- frd,<- ef,hyd];rfl
    have hl:=congrArg List.length hb;simp only[List.length_append,List.length_cons,List.length_nil] at hl;exact List.length_eq_zero_iff.1 (by omega)
   have hyo:y.own=false:=by
    have:(false || (st.getD d .dead).own)=f.ov:=by rw[<- ef];rfl
    rw[fov,hyd,Bool.false_or] at this;exact this
   have hset:∀ {z:List A},z[d]?=some y->z5n z d (.bor t)=z.set d (.bor t):=by
    intro z hz;have hzd:z.getD d .dead=y:=by rw[List.getD_eq_getElem?_getD,hz];rfl
    unfold z5n;rw[hzd];cases y<;>first|rfl|(simp[A.own] at hyo)
   have horf:∀ {z:List A},z[d]?=some y->ownRef z d=false:=by
    intro z hz;have hzd:z.getD d .dead=y:=by rw[List.getD_eq_getElem?_getD,hz];rfl
    unfold ownRef;rw[zb6,hzd,hyo]
   rw[hset hy0] at es;subst es;obtain⟨st2',g1,g2,g3,g4,g5⟩:=slip hyr htd k st fp0 _ h2 hd hy0 hown (by simpa using c11) (by simpa using c13) (by simpa using c14);refine⟨st2',g1,?_⟩;rw[eo st2' g4];simp only[zn,Cmd.cps];have hok2:z85 E st2' d (.bor t)=true:=by
    unfold z85;rw[g5,k1];show z1i true (z1i (!(Nat.beq t d)) (z4j st2' t))=true;rw[g4,(z7 k2).1];rfl
   have hyd2:st2'.getD d .dead=y:=by rw[List.getD_eq_getElem?_getD,g3];rfl
   rw[hok2,hset g3,horf g3,hyd2];rw[horf hy0,hyd] at ef;simp only at g2;rw[g2,<- ef];rfl
 . cases hc
theorem zin {α:Type}(k:Cmd α):∀ (st:List A) (fp:FP) (r:α×List A×FP),zn E k st fp=some r->(∃ l,r.2.2.wr=l++fp.wr)/\(∃ l,r.2.2.rr=l++fp.rr)/\(r.2.2.ov=false->fp.ov=false):=by
 induction k with
 | ret a=>intro st fp r h;rw[z3c h];exact⟨⟨[],rfl⟩,⟨[],rfl⟩,id⟩
 | fail=>intro st fp r h;exact (z6 h).elim
 | get t k ih =>
   intro st fp r h;obtain⟨h1,⟨l,h2⟩,h3⟩:=ih _ st _ r h;exact⟨h1,⟨l++z4l (st.getD t .dead),by rw[h2];simp⟩,h3⟩
 | set t x k ih =>
   intro st fp r h;simp only[zn,Cmd.cps] at h;cases hk:z85 E st t x<;>rw[hk] at h
   . simp at h
   simp only[cond] at h;obtain⟨⟨l,h1⟩,h2,h3⟩:=ih _ _ r h;refine⟨⟨l++[t],by rw[h1];simp⟩,h2,fun e=>?_⟩;have:=h3 e;simp only[Bool.or_eq_false_iff] at this;exact this.1
 | cont u x k ih =>
   intro st fp r h;simp only[zn,Cmd.cps] at h;cases hk:Nat.blt u st.length<;>rw[hk] at h
   . simp at h
   simp only[cond] at h;obtain⟨⟨l,h1⟩,h2,h3⟩:=ih _ _ r h;exact⟨⟨l++[u],by rw[h1];simp⟩,h2,h3⟩
 | retire u k ih =>
   intro st fp r h;simp only[zn,Cmd.cps] at h;obtain⟨⟨l,h1⟩,h2,h3⟩:=ih _ _ r h;exact⟨⟨l++[u],by rw[h1];simp⟩,h2,h3⟩
 | test b x y ihx ihy =>
   intro st fp r h;cases b with
   | true=>exact ihx st fp r h
   | false=>exact ihy st fp r h
 | call f args k ih =>
   intro st fp r h;obtain⟨x,hv,h⟩:=z5x h;exact ih _ _ st fp r h
 | guard u x y z ihx ihy ihz =>
   intro st fp r h;simp only[zn,Cmd.cps] at h;split at h
   . rename_i b _;cases b<;>simp only[cond] at h
     . have:=ihy _ _ r h;exact this
     . have:=ihx _ _ r h;exact this
   . have:=ihz _ _ r h;exact this
   . cases h
theorem z9x {st:List A}{u:Nat}{x:A}(h:st.getD u .dead=x)(hx:x ≠ .dead):st.set u x=st:=by
 apply List.ext_getElem?;intro i;by_cases e:u=i
 . subst e;have:=zm h hx;rw[this,List.getElem?_set_self (by
    rcases Nat.lt_or_ge u st.length with h1|h1
    . exact h1
    . rw[List.getElem?_eq_none h1] at this;cases this)]
 . rw[List.getElem?_set_ne e]
theorem zcg {st st':List A}{u:Nat}(h:st'[u]?=st[u]?):st'.getD u .dead=st.getD u .dead:=by simp[List.getD,h]
theorem z15m {α:Type} (k:Cmd α):∀ (st:List A) (fp:FP) (r:α×List A×FP),zn E k st fp=some r->r.2.2.wr=fp.wr →
 r.2.1=st/\r.2.2.sl=fp.sl/\(r.2.2.rr=[]->∀ u∈r.2.2.rd,u∈fp.rd\/z4l (st.getD u .dead)=[])/\∀ st',(∀ u∈r.2.2.rd,st'[u]?=st[u]?)->zn E k st' fp=some (r.1,st',r.2.2):=by
 have no:∀ {t:Nat} {l m:List Nat},l++t::m≠m:=by
  intro t l m e;have:=congrArg List.length e;simp at this;omega
 induction k with
 | ret a=>intro st fp r h _;rw[z3c h];exact⟨rfl,rfl,fun _ u hu=>.inl hu,fun st' _=>rfl⟩
 | fail=>intro st fp r h;exact (z6 h).elim
 | get t k ih =>
   intro st fp r h hw;obtain⟨m1,_,_⟩:=z3d (k _) _ _ r h;obtain⟨_,⟨l,hl⟩,_⟩:=zin (k _) _ _ r h;obtain⟨h1,h2,h3,h4⟩:=ih _ st _ r h hw;refine⟨h1,h2,fun e u hu=>?_,fun st' hag=>?_⟩
   . rcases h3 e u hu with h|h
     . rcases List.mem_cons.1 h with rfl|h
       . rw[e] at hl;have:=List.append_eq_nil_iff.1 hl.symm;exact .inr (List.append_eq_nil_iff.1 this.2).1
       . exact .inl h
     . exact .inr h
   . have:=h4 st' hag;show zn E (k (st'.getD t .dead)) st' _=_;rw[zcg (hag t (m1 t (by simp)))];exact this
 | set t x k ih =>
   intro st fp r h hw;simp only[zn,Cmd.cps] at h;cases hk:z85 E st t x<;>rw[hk] at h
   . simp at h
   simp only[cond] at h;obtain⟨⟨l,h1⟩,_⟩:=zin k _ _ r h;exact absurd (h1.symm.trans hw) no
 | cont u x k ih =>
   intro st fp r h hw;simp only[zn,Cmd.cps] at h;cases hk:Nat.blt u st.length<;>rw[hk] at h
   . simp at h
   simp only[cond] at h;obtain⟨⟨l,h1⟩,_⟩:=zin k _ _ r h;exact absurd (h1.symm.trans hw) no
 | retire u k ih =>
   intro st fp r h hw;simp only[zn,Cmd.cps] at h;obtain⟨⟨l,h1⟩,_⟩:=zin k _ _ r h;exact absurd (h1.symm.trans hw) no
 | test b x y ihx ihy =>
   intro st fp r h hw;cases b with
   | true=>exact ihx st fp r h hw
   | false=>exact ihy st fp r h hw
 | call f args k ih =>
   intro st fp r h hw;obtain⟨x,hv,h⟩:=z5x h;obtain⟨h1,h2,h3,h4⟩:=ih _ _ st fp r h hw;refine⟨h1,h2,h3,fun st' hag=>?_⟩;simp only[zn,Cmd.cps,hv,Option.bind_some];exact h4 st' hag
 | guard u x y z ihx ihy ihz =>
   intro st fp r h hw;have hur:u∈r.2.2.rd:=z8o h;simp only[zn,Cmd.cps] at h;split at h
   . rename_i b hb;have hs:st.set u (.v .bool b)=st:=z9x hb (by simp);cases b<;>simp only[cond] at h
     . rw[hs] at h;obtain⟨h1,h2,h3,h4⟩:=ihy _ _ r h hw;refine⟨h1,h2,fun e v hv=>?_,fun st' hag=>?_⟩
       . rcases h3 e v hv with h|h
         . rcases List.mem_cons.1 h with rfl|h
           . rw[hb];exact .inr rfl
           . exact .inl h
         . exact .inr h
       . have hb':st'.getD u .dead=.v .bool false:=(zcg (hag u hur)).trans hb;simp only[zn,Cmd.cps,hb',cond];rw[z9x hb' (by simp)];exact h4 st' hag
     . rw[hs] at h;obtain⟨h1,h2,h3,h4⟩:=ihx _ _ r h hw;refine⟨h1,h2,fun e v hv=>?_,fun st' hag=>?_⟩
       . rcases h3 e v hv with h|h
         . rcases List.mem_cons.1 h with rfl|h
           . rw[hb];exact .inr rfl
           . exact .inl h
         . exact .inr h
       . have hb':st'.getD u .dead=.v .bool true:=(zcg (hag u hur)).trans hb;simp only[zn,Cmd.cps,hb',cond];rw[z9x hb' (by simp)];exact h4 st' hag
   . rename_i hb;obtain⟨h1,h2,h3,h4⟩:=ihz _ _ r h hw;refine⟨h1,h2,fun e v hv=>?_,fun st' hag=>?_⟩
     . rcases h3 e v hv with h|h
       . rcases List.mem_cons.1 h with rfl|h
         . rw[hb];exact .inr rfl
         . exact .inl h
       . exact .inr h
     . have hb':st'.getD u .dead=.tup []:=(zcg (hag u hur)).trans hb;simp only[zn,Cmd.cps,hb'];exact h4 st' hag
   . cases h
theorem lays {α:Type} {d:Nat} (k:Cmd α):∀ (st:List A) (fp:FP) (r:α×List A×FP),zn E k st fp=some r->r.2.2.wr=d::fp.wr->r.2.2.sl=d::fp.sl->r.2.2.ov=false->r.2.2.rr=[] →
 ∃ x y,z4l x=[]/\z4l y=[]/\st[d]?=some y/\r.2.1=st.set d x/\(∀ u∈r.2.2.rd,u∈fp.rd\/z4l (st.getD u .dead)=[])/\∀ st',st'.length=st.length->(∀ u∈r.2.2.rd,st'[u]?=st[u]?)->zn E k st' fp=some (r.1,st'.set d x,r.2.2):=by
 have no:∀ {t:Nat} {m:List Nat},t::m≠m:=by
  intro t m e;have:=congrArg List.length e;simp at this
 have one:∀ {t e:Nat} {l m:List Nat},e::m=l++t::m->e=t/\l=[]:=by
  intro t e l m h;have:=congrArg List.length h;rw[List.length_append,List.length_cons,List.length_cons] at this;have hl:l=[]:=List.length_eq_zero_iff.1 (by omega);subst hl;simp at h;exact⟨h,rfl⟩
 induction k with
 | ret a=>intro st fp r h hw;rw[z3c h] at hw;exact absurd hw.symm no
 | fail=>intro st fp r h;exact (z6 h).elim
 | get t k ih =>
   intro st fp r h hw hsl hov hrr;obtain⟨m1,_,_⟩:=z3d (k _) _ _ r h;obtain⟨_,⟨l,hl⟩,_⟩:=zin (k _) _ _ r h;obtain⟨x,y,h1,h2,h3,h4,h5,h6⟩:=ih _ st _ r h hw hsl hov hrr;refine⟨x,y,h1,h2,h3,h4,fun u hu=>?_,fun st' hlen hag=>?_⟩
   . rcases h5 u hu with h|h
     . rcases List.mem_cons.1 h with rfl|h
       . rw[hrr] at hl;have:=List.append_eq_nil_iff.1 hl.symm;exact .inr (List.append_eq_nil_iff.1 this.2).1
       . exact .inl h
     . exact .inr h
   . have:=h6 st' hlen hag;show zn E (k (st'.getD t .dead)) st' _=_;rw[zcg (hag t (m1 t (by simp)))];exact this
 | set t x k ih =>
   intro st fp r h hw hsl hov hrr;simp only[zn,Cmd.cps] at h;cases hk:z85 E st t x<;>rw[hk] at h
   . simp at h
   simp only[cond] at h;obtain⟨hlt,_,_⟩:=z2i hk;obtain⟨m1,_,_⟩:=z3d k _ _ r h;obtain⟨⟨l,h1⟩,_,h3⟩:=zin k _ _ r h;obtain⟨rfl,rfl⟩:=one (hw.symm.trans h1);have hov2:=h3 hov;simp only[Bool.or_eq_false_iff] at hov2;obtain⟨y,hy0⟩:∃ y,st[d]?=some y:=⟨_,List.getElem?_eq_getElem hlt⟩
   have hyd:st.getD d .dead=y:=by rw[List.getD_eq_getElem?_getD,hy0];rfl
   have hyo:y.own=false:=by rw[<- hyd];exact hov2.2
   have hset:∀ {z:List A},z.getD d .dead=y->z5n z d x=z.set d x:=by
    intro z hz;unfold z5n;rw[hz];cases y<;>first|rfl|(simp[A.own] at hyo)
   have horf:∀ {z:List A},z.getD d .dead=y->ownRef z d=false:=by
    intro z hz;unfold ownRef;rw[zb6,hz,hyo]
   obtain⟨g1,g2,g3,g4⟩:=z15m k _ _ r h h1;rw[hsl,hyd] at g2;have href:z4l x=[]/\z4l y=[]:=by
    unfold slL at g2;split at g2
    . rename_i e1 e2;exact⟨e1,e2⟩
    . exact absurd g2 no
   rw[hset hyd] at g1 g3 g4;have hdr:d∈r.2.2.rd:=m1 d (by simp);refine⟨x,y,href.1,href.2,hy0,g1,fun u hu=>?_,fun st' hlen hag=>?_⟩
   . by_cases hud:u=d
     . subst hud;exact .inr (by rw[hyd];exact href.2)
     rcases g3 hrr u hu with h|h
     . rw[href.1,hyd,href.2] at h;rcases List.mem_cons.1 h with e|h
       . exact absurd e hud
       . exact .inl h
     . rw[z3b hud] at h;exact .inr h
   . have hyd':st'.getD d .dead=y:=(zcg (hag d hdr)).trans hyd;have hok:z85 E st' d x=true:=by
      rw[<- hk];exact zel hlen (fun s hs=>by rw[href.1] at hs;cases hs)
     have:=g4 (st'.set d x) (fun u hu=>by
      by_cases hud:d=u
      . subst hud;rw[List.getElem?_set_self (by omega),List.getElem?_set_self hlt]
      . rw[List.getElem?_set_ne hud,List.getElem?_set_ne hud];exact hag u hu)
     simp only[zn,Cmd.cps,hok,cond];rw[hset hyd',horf hyd',hyd'];rw[horf hyd,hyd] at this;exact this
 | cont u x k ih =>
   intro st fp r h hw hsl;simp only[zn,Cmd.cps] at h;cases hk:Nat.blt u st.length<;>rw[hk] at h
   . simp at h
   simp only[cond] at h;obtain⟨⟨l,h1⟩,_⟩:=zin k _ _ r h;obtain⟨rfl,rfl⟩:=one (hw.symm.trans h1);obtain⟨g1,g2,_⟩:=z15m k _ _ r h h1;exact absurd (hsl.symm.trans g2) no
 | retire u k ih =>
   intro st fp r h hw hsl;simp only[zn,Cmd.cps] at h;obtain⟨⟨l,h1⟩,_⟩:=zin k _ _ r h;obtain⟨rfl,rfl⟩:=one (hw.symm.trans h1);obtain⟨g1,g2,_⟩:=z15m k _ _ r h h1;exact absurd (hsl.symm.trans g2) no
 | test b x y ihx ihy =>
   intro st fp r h;cases b with
   | true=>exact ihx st fp r h
   | false=>exact ihy st fp r h
 | call f args k ih =>
   intro st fp r h hw hsl hov hrr;obtain⟨x,hv,h⟩:=z5x h;obtain⟨x',y,h1,h2,h3,h4,h5,h6⟩:=ih _ _ st fp r h hw hsl hov hrr;refine⟨x',y,h1,h2,h3,h4,h5,fun st' hlen hag=>?_⟩;simp only[zn,Cmd.cps,hv,Option.bind_some];exact h6 st' hlen hag
 | guard u x y z ihx ihy ihz =>
   intro st fp r h hw hsl hov hrr;have hur:u∈r.2.2.rd:=z8o h;have fin:∀ {v:A} {rd:List Nat},st.getD u .dead=v->z4l v=[]->(∀ w∈r.2.2.rd,w∈u::rd\/z4l (st.getD w .dead)=[])->∀ w∈r.2.2.rd,w∈rd\/z4l (st.getD w .dead)=[]:=by
    intro v rd hv hr h w hw;rcases h w hw with h|h
    . rcases List.mem_cons.1 h with rfl|h
      . rw[hv];exact .inr hr
      . exact .inl h
    . exact .inr h
   simp only[zn,Cmd.cps] at h;split at h
   . rename_i b hb;have hs:st.set u (.v .bool b)=st:=z9x hb (by simp);cases b<;>simp only[cond] at h
     . rw[hs] at h;obtain⟨x',y',h1,h2,h3,h4,h5,h6⟩:=ihy _ _ r h hw hsl hov hrr;refine⟨x',y',h1,h2,h3,h4,fin hb rfl h5,fun st' hlen hag=>?_⟩;have hb':st'.getD u .dead=.v .bool false:=(zcg (hag u hur)).trans hb;simp only[zn,Cmd.cps,hb',cond];rw[z9x hb' (by simp)];exact h6 st' hlen hag
     . rw[hs] at h;obtain⟨x',y',h1,h2,h3,h4,h5,h6⟩:=ihx _ _ r h hw hsl hov hrr;refine⟨x',y',h1,h2,h3,h4,fin hb rfl h5,fun st' hlen hag=>?_⟩;have hb':st'.getD u .dead=.v .bool true:=(zcg (hag u hur)).trans hb;simp only[zn,Cmd.cps,hb',cond];rw[z9x hb' (by simp)];exact h6 st' hlen hag
   . rename_i hb;obtain⟨x',y',h1,h2,h3,h4,h5,h6⟩:=ihz _ _ r h hw hsl hov hrr;refine⟨x',y',h1,h2,h3,h4,fin hb rfl h5,fun st' hlen hag=>?_⟩;have hb':st'.getD u .dead=.tup []:=(zcg (hag u hur)).trans hb;simp only[zn,Cmd.cps,hb'];exact h6 st' hlen hag
   . cases h
theorem zjc {st:List A}{d u:Nat}{x y:A}(hd:d<st.length)(hy0:st[d]?=some y)(hx:z4l x=[])(hy:z4l y=[]):hasRef u (st.set d x)=hasRef u st:=by
 rw[Bool.eq_iff_iff,z3r,z3r];constructor
 . rintro⟨i,h⟩;rw[z2f hd] at h;split at h
   . have:=zf9 h;rw[hx] at this;cases this
   . exact⟨i,h⟩
 . rintro⟨i,h⟩;refine⟨i,(z2f hd).2 ?_⟩;split
   . rename_i e;subst e;obtain⟨z,h1,h2⟩:=h;rw[hy0] at h1;cases h1;have:=zf9 h2;rw[hy] at this;cases this
   . exact h
theorem zr5 {st:List A}{d u:Nat}{x y:A}(hd:d<st.length)(hy0:st[d]?=some y)(hx:z4l x=[])(hy:z4l y=[]):hasCel u (st.set d x)=hasCel u st:=by
 rw[Bool.eq_iff_iff,z6f,z6f];constructor
 . rintro⟨i,h⟩;rw[z2f hd] at h;split at h
   . have:=zf9 h;rw[hx] at this;cases this
   . exact⟨i,h⟩
 . rintro⟨i,h⟩;refine⟨i,(z2f hd).2 ?_⟩;split
   . rename_i e;subst e;obtain⟨z,h1,h2⟩:=h;rw[hy0] at h1;cases h1;have:=zf9 h2;rw[hy] at this;cases this
   . exact h
theorem zlm (f:A->A){st:List A}{d:Nat}{x y:A}(hy0:st[d]?=some y)(hfy:f y=y)(hfx:f x=x):(st.set d x).map f=(st.map f).set d x/\(st.map f)[d]?=some y :=
 ⟨by rw[List.map_set,hfx],by rw[List.getElem?_map,hy0,Option.map_some,hfy]⟩
theorem zky {st:List A}{d u:Nat}{v x y:A}(hy0:st[d]?=some y)(hx:z4l x=[])(hy:z4l y=[])(hud:u≠d) :
 z5n (st.set d x) u v=(z5n st u v).set d x/\(z5n st u v)[d]?=some y:=by
 obtain⟨m1,m2⟩:=zlm (zjx u) hy0 (zia hy) (zia hx);unfold z5n;rw[z3b hud];split
 all_goals
  refine⟨?_,?_⟩
  first
   | rw[m1,List.set_comm _ _ (Ne.symm hud)]
   | rw[List.set_comm _ _ (Ne.symm hud)]
  first
   | (rw[List.getElem?_set_ne hud];exact m2)
   | (rw[List.getElem?_set_ne hud];exact hy0)
theorem zjf {st:List A}{d u:Nat}{v x y:A}(hy0:st[d]?=some y)(hx:z4l x=[])(hy:z4l y=[])(hud:u≠d) :
 z1j (st.set d x) u v=(z1j st u v).set d x/\(z1j st u v)[d]?=some y:=by
 obtain⟨m1,m2⟩:=zlm (zgz u) hy0 (zi9 hy) (zi9 hx);unfold z1j;exact⟨by rw[m1,List.set_comm _ _ (Ne.symm hud)],by rw[List.getElem?_set_ne hud];exact m2⟩
theorem zl6 {st:List A}{d u:Nat}{x y:A}(hy0:st[d]?=some y)(hx:z4l x=[])(hy:z4l y=[])(hud:u≠d) :
 z95 (st.set d x) u=(z95 st u).set d x/\(z95 st u)[d]?=some y:=by
 unfold z95;rw[z3b hud];split
 . rename_i z _;obtain⟨m1,m2⟩:=zlm (zv3 u z) hy0 (zl7 hy) (zl7 hx);exact⟨by rw[m1,List.set_comm _ _ (Ne.symm hud)],by rw[List.getElem?_set_ne hud];exact m2⟩
 . exact⟨rfl,hy0⟩
theorem slipV {α:Type}{d:Nat}{x y:A}(hx:z4l x=[])(hy:z4l y=[])(k:Cmd α):∀ (st:List A) (fp:FP) (r:α×List A×FP),zn E k (st.set d x) fp=some r->d<st.length->st[d]?=some y →
 d∉r.2.2.rd->d∉r.2.2.wr->∃ st2,zn E k st fp=some (r.1,st2,r.2.2)/\r.2.1=st2.set d x/\st2.length=st.length/\∀ u,u∉r.2.2.wr->∀ z,st[u]?=some z->z4l z=[]->st2[u]?=some z:=by
 induction k with
 | ret a =>
   intro st fp r h hd hy0 _ _;rw[z3c h];exact⟨st,rfl,rfl,rfl,fun _ _ _ h _=>h⟩
 | fail=>intro st fp r h;exact (z6 h).elim
 | get u k ih =>
   intro st fp r h hd hy0 h1 h2;have hmem:u∈r.2.2.rd:=(z3d (k _) _ { fp with rd:=u::fp.rd,rr:=(z4l ((st.set d x).getD u .dead)).append fp.rr } r h).1 u (by simp);have hud:u≠d:=fun e=>h1 (e ▸ hmem)
   have hg:(st.set d x).getD u .dead=st.getD u .dead:=z3b hud;have h':zn E (k (st.getD u .dead)) (st.set d x) { fp with rd:=u::fp.rd,rr:=(z4l (st.getD u .dead)).append fp.rr }=some r:=by rw[<- hg];exact h
   exact ih _ st _ r h' hd hy0 h1 h2
 | set u v k ih =>
   intro st fp r h hd hy0 h1 h2;simp only[zn,Cmd.cps] at h;cases hk:z85 E (st.set d x) u v<;>rw[hk] at h
   . simp at h
   simp only[cond] at h;obtain⟨m1,m2,_⟩:=z3d k _ _ r h;have hud:u≠d:=fun e=>h2 (by subst e;exact m2 _ (by simp))
   have hxr:∀ s∈z4l v,s≠d:=fun s hs e=>h1 (by subst e;exact m1 _ (List.mem_append.2 (.inl hs)))
   obtain⟨e1,e2⟩:=zky (v:=v) hy0 hx hy hud;have hk':z85 E st u v=true:=by
    rw[<- hk];exact (zel (by simp) (fun s hs=>List.getElem?_set_ne (Ne.symm (hxr s hs)))).symm
   have hor:ownRef (st.set d x) u=ownRef st u:=by
    unfold ownRef;rw[z2h (List.getElem?_set_ne (Ne.symm hud)),zjc hd hy0 hx hy]
   rw[e1,hor,z3b hud] at h;obtain⟨st2,g1,g2,g3,g4⟩:=ih _ _ r h (by rw[z1u];exact hd) e2 h1 h2;refine⟨st2,?_,g2,by rw[g3,z1u],fun s hs z hz hr=>g4 s hs z ?_ hr⟩
   . simp only[zn,Cmd.cps];rw[hk'];exact g1
   . have hsu:s≠u:=fun e=>hs (by subst e;exact m2 _ (by simp))
     exact (zky (v:=v) (x:=z) hz hr hr (Ne.symm hsu)).2
 | cont u v k ih =>
   intro st fp r h hd hy0 h1 h2;simp only[zn,Cmd.cps] at h;cases hk:Nat.blt u (st.set d x).length<;>rw[hk] at h
   . simp at h
   simp only[cond] at h;obtain⟨m1,m2,_⟩:=z3d k _ _ r h;have hud:u≠d:=fun e=>h2 (by subst e;exact m2 _ (by simp))
   have hul:u<st.length:=by simpa using hk
   obtain⟨e1,e2⟩:=zjf (v:=v) hy0 hx hy hud;rw[e1,zr5 hd hy0 hx hy,z3b hud] at h;obtain⟨st2,g1,g2,g3,g4⟩:=ih _ _ r h (by simpa[z1j] using hd) e2 h1 h2;refine⟨st2,?_,g2,by rw[g3];simp[z1j],fun s hs z hz hr=>g4 s hs z ?_ hr⟩
   . simp only[zn,Cmd.cps];rw[show Nat.blt u st.length=true by simpa using hul];exact g1
   . have hsu:s≠u:=fun e=>hs (by subst e;exact m2 _ (by simp))
     exact (zjf (v:=v) (x:=z) hz hr hr (Ne.symm hsu)).2
 | retire u k ih =>
   intro st fp r h hd hy0 h1 h2;simp only[zn,Cmd.cps] at h;obtain⟨m1,m2,_⟩:=z3d k _ _ r h;have hud:u≠d:=fun e=>h2 (by subst e;exact m2 _ (by simp))
   obtain⟨e1,e2⟩:=zl6 hy0 hx hy hud;rw[e1,zjc hd hy0 hx hy] at h;obtain⟨st2,g1,g2,g3,g4⟩:=ih _ _ r h (by rw[z39];exact hd) e2 h1 h2;refine⟨st2,g1,g2,by rw[g3,z39],fun s hs z hz hr=>g4 s hs z ?_ hr⟩;have hsu:s≠u:=fun e=>hs (by subst e;exact m2 _ (by simp))
   exact (zl6 (x:=z) hz hr hr (Ne.symm hsu)).2
 | test b x' y' ihx ihy =>
   intro st fp r h;cases b with
   | true=>exact ihx st fp r h
   | false=>exact ihy st fp r h
 | call f args k ih =>
   intro st fp r h hd hy0 h1 h2;obtain⟨z,hv,h⟩:=z5x h;obtain⟨st2,g1,g⟩:=ih _ _ st fp r h hd hy0 h1 h2;refine⟨st2,?_,g⟩;simp only[zn,Cmd.cps,hv,Option.bind_some];exact g1
 | guard u x' y' z ihx ihy ihz =>
   intro st fp r h hd hy0 h1 h2;have hud:u≠d:=fun e=>h1 (by subst e;exact (z8o h))
   simp only[zn,Cmd.cps] at h ⊢;rw[z3b hud] at h;split at h
   . rename_i b hb;have hs:st.set u (.v .bool b)=st:=z9x hb (by simp);have hs':(st.set d x).set u (.v .bool b)=st.set d x:=z9x ((z3b hud).trans hb) (by simp);cases b<;>simp only[cond] at h ⊢<;>rw[hs'] at h<;>rw[hs]
     . exact ihy _ _ r h hd hy0 h1 h2
     . exact ihx _ _ r h hd hy0 h1 h2
   . exact ihz _ _ r h hd hy0 h1 h2
   . cases h
theorem zy9 {all:Array Oper} {o:Oper} {k:Cmd Unit} {st st1 st2:List A} {f g:FP} (h1:zn E (z45 E all o) st fp0=some ((),st1,f)) (h2:zn E k st1 fp0=some ((),st2,g)) (hc:zus o f g=true) :
 ∃ st1',zn E k st fp0=some ((),st1',g)/\zn E (z45 E all o) st1' fp0=some ((),st2,f):=by
 unfold zus at hc;split at hc
 . rename_i ha;exact zwb h1 h2 ha
 . unfold z1bf at hc;split at hc
   . rename_i d e hw hsl;obtain⟨c1,c2⟩:=z7 hc;obtain⟨c3,c4⟩:=z7 c2;obtain⟨c5,c6⟩:=z7 c3;obtain⟨c7,c8⟩:=z7 c6;obtain⟨c9,c10⟩:=z7 c4;obtain⟨c11,c12⟩:=z7 c10;have hde:=z3v c1;subst hde;obtain⟨x,y,hx,hy,hy0,e1,hrd,hrun⟩:=lays (d:=d) _ st fp0 _ h1 hw hsl (by simpa using c5) (by simpa using c8);simp only at e1 hrd hrun;subst e1;have hd:d<st.length:=by
      rcases Nat.lt_or_ge d st.length with h|h
      . exact h
      . rw[List.getElem?_eq_none h] at hy0;cases hy0
     obtain⟨st1',g1,g2,g3,g4⟩:=slipV hx hy k st fp0 _ h2 hd hy0 (by simpa using c9) (by simpa using c11);simp only at g2;refine⟨st1',g1,?_⟩;rw[g2];refine hrun st1' g3 (fun u hu=>?_);have hm:u∉g.wr:=z9c (by simpa using c12) u hu;rcases Nat.lt_or_ge u st.length with h|h
     . have hz:st[u]?=some st[u]:=List.getElem?_eq_getElem h;have hzd:st.getD u .dead=st[u]:=by rw[List.getD_eq_getElem?_getD,hz];rfl
       rw[hz];refine g4 u hm _ hz ?_;rcases hrd u hu with h'|h'
       . cases h'
       . rw[hzd] at h';exact h'
     . rw[List.getElem?_eq_none h,List.getElem?_eq_none (by omega)]
   . cases hc
theorem zuj {all:Array Oper} {fps:List FP} {i:Nat}:∀ (l1 l2:List Nat) (st st':List A),RunI E all fps (l1++i::l2) st st'->(∀ j∈l1,zhb (fps.getD j fp0) (fps.getD i fp0)=false\/∃ o,all[j]?=some o/\zus o (fps.getD j fp0) (fps.getD i fp0)=true) →
 RunI E all fps (i::(l1++l2)) st st'
 | [],l2,st,st',h,_=>h
 | j :: l1,l2,st,st',h,hc=>by
   cases h with
   | cons ho h hr =>
     have:=zuj l1 l2 _ _ hr (fun k hk=>hc k (by simp[hk]));cases this with
     | cons ho2 h2 hr2 =>
       rcases hc j (by simp) with hc|⟨o',ho',hc⟩
       . obtain⟨st1',g1,g2⟩:=z18l h h2 hc;exact .cons ho2 g1 (.cons ho g2 hr2)
       . rw[ho] at ho';cases ho';obtain⟨st1',g1,g2⟩:=zy9 h h2 hc;exact .cons ho2 g1 (.cons ho g2 hr2)
inductive Anc (all:List Oper):Nat->Nat->Prop
 | base {i j:Nat} {o:Oper} (hj:all[j]?=some o) (h:i∈zhx o):Anc all i j
 | step {i k j:Nat} {o:Oper} (hj:all[j]?=some o) (hk:k∈zhx o) (h:Anc all i k):Anc all i j
theorem zqu {acc:List Nat} {i:Nat}:∀ (ks:List Nat) (m:Nat),(ks.foldl (fun m k=>m ||| (2^k ||| acc.getD k 0)) m).testBit i=true->m.testBit i=true\/∃ k∈ks,i=k\/(acc.getD k 0).testBit i=true
 | [],m,h=>.inl h
 | k :: ks,m,h=>by
   rcases zqu ks _ h with h|⟨k',hk',h⟩
   . rw[Nat.testBit_or,Nat.testBit_or] at h;rcases Bool.or_eq_true _ _ ▸ h with h|h
     . exact .inl h
     . rcases Bool.or_eq_true _ _ ▸ h with h|h
       . rw[Nat.testBit_two_pow] at h;exact .inr ⟨k,by simp,.inl (by have:=of_decide_eq_true h;omega)⟩
       . exact .inr ⟨k,by simp,.inr h⟩
   . exact .inr ⟨k',by simp[hk'],h⟩
theorem zns (all:List Oper):∀ (l:List Oper) (acc:List Nat),(∃ pre,all=pre++l/\pre.length=acc.length)->(∀ j m i,acc[j]?=some m->m.testBit i=true->Anc all i j) →
 ∀ j m i,(zzb l acc)[j]?=some m->m.testBit i=true->Anc all i j
 | [],acc,_,h,j,m,i,hj,hm=>h j m i hj hm
 | o :: l,acc,⟨pre,he,hl⟩,h,j,m,i,hj,hm=>by
   refine zns all l _ ⟨pre++[o],by simp[he],by simp[hl]⟩ ?_ j m i hj hm;intro j m i hj hm;have happ:(acc.append [(zhx o).foldl (fun m k=>m ||| (2^k ||| acc.getD k 0)) 0])=acc++[(zhx o).foldl (fun m k=>m ||| (2^k ||| acc.getD k 0)) 0]:=rfl;rw[happ] at hj;by_cases hlt:j<acc.length
   . rw[List.getElem?_append_left hlt] at hj;exact h j m i hj hm
   . rw[List.getElem?_append_right (by omega)] at hj;have hj0:j=acc.length:=by
      rcases Nat.lt_or_ge (j - acc.length) 1 with h'|h'
      . omega
      . rw[List.getElem?_eq_none (by simpa using h')] at hj;cases hj
     subst hj0;simp at hj;subst hj;have ho:all[acc.length]?=some o:=by rw[he,<- hl];simp
     rcases zqu _ _ hm with h'|⟨k,hk,h'|h'⟩
     . simp at h'
     . subst h';exact .base ho hk
     . refine .step ho hk ?_;cases hk':acc[k]? with
       | none=>simp[List.getD,hk'] at h'
       | some mk=>exact h k mk i hk' (by simpa[List.getD,hk'] using h')
theorem zxh {all:Array Oper}{listed:Array Bool}(hcl:∀ j o,all[j]?=some o->listed.getD j false=true->∀ k∈zhx o,listed.getD k false=true){i j:Nat}(h:Anc all.toList i j) :
 (∀ o,all[j]?=some o->∀ k∈zhx o,listed.getD k false=true)->listed.getD i false=true:=by
 induction h with
 | base hj hi=>intro hp;exact hp _ (by rw[<- Array.getElem?_toList];exact hj) _ hi
 | @step k j o hj hk _ ih =>
   intro hp;have hj':all[j]?=some o:=by rw[<- Array.getElem?_toList];exact hj
   exact ih fun o ho k hk'=>hcl _ o ho (hp _ hj' _ hk) k hk'
theorem zix:∀ {l:List Oper} {i:Nat},zss i l=true->∀ j o,l[j]?=some o->∀ k∈zhx o,k<i+j
 | [],_,_,j,o,hj=>by simp at hj
 | x :: l,i,h,j,o,hj=>by
   obtain⟨h1,h2⟩:=z7 h;cases j with
   | zero =>
     simp at hj;subst hj;intro k hk;have:=List.all_eq_true.1 h1 k hk;simpa using this
   | succ j =>
     intro k hk;have:=zix h2 j o (by simpa using hj) k hk;omega
theorem zqo {o:Oper}{k:Nat}:k∈zhx o ↔ ∃ e∈o.after,Region.binds .any e=true/\e.on=k:=by
 simp[zhx,List.mem_map,List.mem_filter,and_assoc]
theorem zla {all:Array Oper}{listed:Array Bool}{i:Nat}:i∈Region.ready .any all listed ↔ i<all.size/\listed.getD i true=false/\∃ o,all[i]?=some o/\∀ k∈zhx o,listed.getD k false=true:=by
 simp only[Region.ready,List.mem_filter,List.mem_range,Bool.and_eq_true,Bool.not_eq_true'];constructor
 . rintro⟨h1,h2,h3⟩;have ho:all[i]?=some all[i]:=Array.getElem?_eq_getElem h1;rw[ho] at h3;refine⟨h1,h2,_,ho,fun k hk=>?_⟩;obtain⟨e,he,hb,rfl⟩:=zqo.1 hk;have h3':(all[i].after.all fun e=>!Region.binds .any e || listed.getD e.on false)=true:=h3;have:=Array.all_eq_true'.1 h3' e he;rw[hb] at this;exact this
 . rintro⟨h1,h2,o,ho,h3⟩;refine⟨h1,h2,?_⟩;rw[ho];simp only[Option.map_some,Option.getD_some];rw[Array.all_eq_true'];intro e he;cases hb:Region.binds .any e with
   | false=>rfl
   | true=>rw[h3 e.on (zqo.2 ⟨e,he,hb,rfl⟩)];rfl
def left (n:Nat)(listed:Array Bool):List Nat:=(List.range n).filter fun i=>!listed.getD i true
theorem zk5 {n i:Nat}{listed:Array Bool}:i∈left n listed ↔ i<n/\listed.getD i true=false:=by
 unfold left;rw[List.mem_filter,List.mem_range,Bool.not_eq_true']
theorem zoz {n i:Nat}{listed:Array Bool}(hn:listed.size=n)(hi:i<n)(hl:listed.getD i true=false) :
 ∃ l1 l2,left n listed=l1++i::l2/\left n (listed.setIfInBounds i true)=l1++l2/\∀ j∈l1,j<i:=by
 have hsplit:List.range n=List.range i++i::(List.range' (i+1) (n - i - 1)):=by
  have h1:List.range n=List.range' 0 i++List.range' i (n - i):=by
   rw[List.range_eq_range'];have:=List.range'_append_1 (s:=0) (m:=i) (n:=n - i);rw[Nat.zero_add] at this;rw[this];congr 1;omega
  rw[h1,<- List.range_eq_range'];congr 1;obtain⟨k,hk⟩:∃ k,n - i=k+1:=⟨n - i - 1,by omega⟩
  rw[hk,List.range'_succ];simp
 have hget:∀ j,j≠i->(listed.setIfInBounds i true).getD j true=listed.getD j true:=by
  intro j hj;simp[Array.getD_eq_getD_getElem?,Array.getElem?_setIfInBounds_ne (Ne.symm hj)]
 have hgi:(listed.setIfInBounds i true).getD i true=true:=by
  simp[Array.getD_eq_getD_getElem?]
 refine⟨(List.range i).filter fun j=>!listed.getD j true,(List.range' (i+1) (n - i - 1)).filter fun j=>!listed.getD j true,?_,?_,?_⟩
 . unfold left;rw[hsplit,List.filter_append,List.filter_cons,if_pos (by simp[hl])]
 . unfold left;rw[hsplit,List.filter_append,List.filter_cons,if_neg (by simp[hgi])];congr 1
   . apply List.filter_congr;intro j hj;rw[hget j (by simp at hj;omega)]
   . apply List.filter_congr;intro j hj;rw[hget j (by simp[List.mem_range'] at hj;omega)]
 . intro j hj;simp at hj;exact hj.1
variable {P:Program} {c:Ctx}
theorem z10t {ρ:Option Nat} {all:Array Oper} {Q:Exit->Act->World->Prop} {fps:List FP} {st':List A} (hb:Base P E c) (hok:z106 all.toList fps=true) (hq:∀ a w,Sim c st' a w->Q .normal a w) :
 ∀ (fuel:Nat) (listed:Array Bool) (st:List A) (a:Act) (w:World),listed.size=all.size->(left all.size listed).length<=fuel →
   (∀ j o,all[j]?=some o->listed.getD j false=true->∀ k∈zhx o,listed.getD k false=true) →
   RunI E all fps (left all.size listed) st st'->Sim c st a w->wpAnyIn (FR ρ) 0 P .any all Q fuel listed a w:=by
 obtain⟨hpo,hpairs⟩:=z7 hok;have hpred:=zix hpo;have hready:∀ listed:Array Bool,listed.size=all.size->Region.ready .any all listed=[]->left all.size listed=[]:=by
  intro listed hsz hr;cases hl:left all.size listed with
  | nil=>rfl
  | cons i l =>
    -- the least one that is left is ready
    exfalso;have himem:i∈left all.size listed:=by rw[hl];simp
    have hi:i<all.size/\listed.getD i true=false:=zk5.1 himem;have hmin:∀ j,j<i->listed.getD j true=true:=by
     intro j hj;obtain⟨l1,l2,h1,_,h3⟩:=zoz hsz hi.1 hi.2;cases l1 with
     | nil =>
       cases hlj:listed.getD j true with
       | true=>rfl
       | false =>
         have hmem:j∈left all.size listed:=zk5.2 ⟨by omega,hlj⟩;obtain⟨m1,m2,g1,_,g3⟩:=zoz hsz (by omega:j<all.size) hlj;rw[h1] at g1;cases m1 with
         | nil=>simp at g1;omega
         | cons y m1=>simp at g1;have:=g3 y (by simp);omega
     | cons x l1 =>
       rw[h1] at hl;simp at hl;have:=h3 x (by simp);omega
    have:i∈Region.ready .any all listed:=by
     refine zla.2 ⟨hi.1,hi.2,all[i],Array.getElem?_eq_getElem hi.1,fun k hk=>?_⟩;have hki:=hpred i all[i] (by rw[Array.getElem?_toList];exact Array.getElem?_eq_getElem hi.1) k hk;have:=hmin k (by omega);have hks:k<listed.size:=by omega
     simpa[Array.getD_eq_getD_getElem?,hks] using this
    rw[hr] at this;cases this
 intro fuel
 induction fuel with
 | zero =>
   intro listed st a w hsz hlen hcl hrun hs;have hnil:left all.size listed=[]:=List.length_eq_zero_iff.1 (by omega);rw[hnil] at hrun;cases hrun;refine⟨?_,hq a w hs⟩;cases hr:Region.ready .any all listed with
   | nil=>rfl
   | cons i l =>
     exfalso;have hi:=zla.1 (show i∈Region.ready .any all listed by rw[hr];simp);have:i∈left all.size listed:=zk5.2 ⟨hi.1,hi.2.1⟩;rw[hnil] at this;cases this
 | succ fuel ih =>
   intro listed st a w hsz hlen hcl hrun hs;refine⟨fun hr=>?_,fun i hi=>?_⟩
   . rw[hready listed hsz hr] at hrun;cases hrun;exact hq a w hs
   . obtain⟨hil,hl,o,ho,hp⟩:=zla.1 hi;obtain⟨l1,l2,h1,h2,h3⟩:=zoz hsz hil hl;rw[h1] at hrun;have hfront:=zuj l1 l2 _ _ hrun (fun j hj=>by
      have hji:=h3 j hj;have hjl:listed.getD j true=false:=by
       have:j∈left all.size listed:=by rw[h1];simp[hj]
       exact (zk5.1 this).2
      have hpr:=List.all_eq_true.1 hpairs i (by simpa using hil);have hpj:=List.all_eq_true.1 hpr j (by simpa using hji);unfold z13t at hpj;split at hpj
      . rename_i hcf;exact .inl hcf
      cases hbit:((zzb all.toList []).getD i 0).testBit j with
      | true =>
        exfalso;have hanc:Anc all.toList j i:=by
         cases hm:(zzb all.toList [])[i]? with
         | none=>simp[List.getD,hm] at hbit
         | some m=>exact zns all.toList all.toList [] ⟨[],rfl,rfl⟩ (fun j m i hj _=>by simp at hj) i m j hm (by simpa[List.getD,hm] using hbit)
        have:=zxh hcl hanc (fun o' ho' k hk=>by rw[ho] at ho';cases ho';exact hp k hk);have hjs:j<listed.size:=by omega
        simp[Array.getD_eq_getD_getElem?,hjs] at this hjl;rw[this] at hjl;cases hjl
      | false =>
        right
        rw[hbit] at hpj;dsimp only at hpj;split at hpj
        . rename_i o' ho';exact⟨o',by rw[<- Array.getElem?_toList];exact ho',hpj⟩
        . cases hpj)
     cases hfront with
     | cons ho2 hx hr =>
       rw[ho] at ho2;cases ho2;have hg:=zid hx hb hs;have hnext:∀ a' w',Sim c _ a' w'->wpAnyIn (FR ρ) 0 P .any all Q fuel (listed.setIfInBounds i true) a' w':=fun a' w' hs'=>by
        refine ih _ _ a' w' (by simpa using hsz) (by rw[h2];rw[h1] at hlen;simp at hlen ⊢;omega) ?_ (by rw[h2];exact hr) hs';intro j o' hj hlj k hk;have hset:∀ k,listed.getD k false=true->(listed.setIfInBounds i true).getD k false=true:=by
         intro k hk;by_cases e:i=k
         . subst e;simp[Array.getD_eq_getD_getElem?,show i<listed.size by omega]
         . simpa[Array.getD_eq_getD_getElem?,Array.getElem?_setIfInBounds_ne e] using hk
        by_cases e:i=j
        . subst e;rw[ho] at hj;cases hj;exact hset k (hp k hk)
        . refine hset k (hcl j o' hj ?_ k hk);simpa[Array.getD_eq_getD_getElem?,Array.getElem?_setIfInBounds_ne e] using hlj
       unfold wpOpIn;rw[ho];dsimp only;split
       . rename_i hw;rw[if_pos hw] at hg;exact Oper.wpIn_mono hnext (hg ρ Q)
       . rename_i hw;rw[if_neg hw] at hg;exact⟨fun _ _=>trivial,hnext _ _ hg⟩
theorem zo5 {β:Type}{ops:Array Oper}{id:Nat}{K:List A->Option β}{y:β}{st:List A}(hb:Base P E c)(h:zii E ops ops.toList [] st K=some y) :
 ∃ st',K st'=some y/\∀ (ρ:Option Nat) (Q:Exit->Act->World->Prop) (a:Act) (w:World),Sim c st a w->(∀ a' w',Sim c st' a' w'->Q .normal a' w')->(Code.region id ops true).wpIn (FR ρ) 0 P Q a w:=by
 obtain⟨fps,st',hr,hK,hok⟩:=zrh ops.toList [] st K h;refine⟨st',hK,fun ρ Q a w hs hq=>wpIn_region_any hb.env.mixed ?_⟩;have hlen:fps.length=ops.toList.length:=by
  clear h hK hok hs hq;generalize ops.toList=l at hr
  induction hr with
  | nil=>rfl
  | cons _ _ ih=>simp[ih]
 have hi:=zqh (k:=0) fps hr (fun j=>by rw[Nat.zero_add,Array.getElem?_toList]) (fun j f hj=>by simp[List.getD,hj]);have hl0:left ops.size (Array.replicate ops.size false)=List.range' 0 ops.toList.length:=by
  unfold left;rw[<- List.range_eq_range',Array.length_toList];apply List.filter_eq_self.2;intro i hi;have:i<ops.size:=by simpa using hi
  simp[Array.getD_eq_getD_getElem?,this]
 refine z10t hb (by simpa using hok) hq ops.size _ st a _ (by simp) (by rw[hl0];simp) ?_ (by rw[hl0];exact hi) ?_
 . intro j o hj hlj;exfalso;rcases Nat.lt_or_ge j ops.size with hlt|hge
   . simp[Array.getD_eq_getD_getElem?,hlt] at hlj
   . simp[Array.getD_eq_getD_getElem?,hge] at hlj
 . obtain⟨S,ob,hs⟩:=hs;exact⟨S,ob,hs.world (Sub.refl _) ⟨hs.frame.size,hs.frame.same,hs.frame.tape,hs.frame.os,hs.frame.output⟩⟩
end
end
end Go.Lift
