import Derived.Test.YtlhdohlpilippaaDoorLgT
import Derived.WalkKit
import Derived.ProofKit
import Derived.OpenShut
import Derived.ShutString
import Derived.ChangeOld
import Derived.Below
set_option linter.all false
namespace Go.Lift
noncomputable section
open Go.RowKit
mutual
def WfN:Tree->Prop
 | .mk k st ks lo hi=>(Lit.int .i64 k).wf=true/\(st.length=4/\∀ x∈st,(Lit.int .u64 x).wf=true)/\(ks.length<=maxLen/\z1h6 ks)/\(Lit.int .i64 lo).wf=true/\(Lit.int .i64 hi).wf=true
def z1h6:List Tree->Prop
 | []=>True
 | x::xs=>WfN x/\z1h6 xs
end
theorem zvz:∀ (xs:List Tree),z1h6 xs ↔ ∀ x∈xs,WfN x
 | []=>by rw[z1h6];simp
 | x::xs=>by rw[z1h6,zvz xs];simp
def Wf:(t:T)->t.den->Prop
 | .nod,x=>WfN x
 | .int k,n=>(Lit.int k n).wf=true
 | .str,s=>s.length<=maxLen
 | .pair a b,x=>Wf a x.1/\Wf b x.2
 | .arr n t,xs=>xs.length=n/\∀ x∈xs,Wf t x
 | .sl t,xs=>xs.length<=maxLen/\∀ x∈xs,Wf t x
 | _,_=>True
def mtX (P:Program) (nk:TypeId->Bool):(u:T)->(TypeId ⊕ (List Field×Nat))->Bool
 | .bool,.inl t=>match P.underlying t with
   | some .bool=>true
   | _=>false
 | .int k,.inl t=>match P.underlying t with
   | some (.int k')=>decide (k=k')
   | _=>false
 | .str,.inl t=>match P.underlying t with
   | some .string=>true
   | _=>false
 | .sl u,.inl t=>match P.underlying t with
   | some (.slice e)=>z1i (mtX P nk u (.inl e)) (z1i (Nat.beq (P.cellsOf e) u.size) (Nat.blt 0 u.size))
   | _=>false
 | .arr n u,.inl t=>match P.underlying t with
   | some (.array m e)=>z1i (mtX P nk u (.inl e)) (z1i (Nat.beq n m) (z1i (Nat.beq (P.cellsOf e) u.size) (Nat.beq (P.cellsOf t) (n*u.size))))
   | _=>false
 | .unit,.inl t=>match P.underlying t with
   | some (.struct fs)=>z1i (Nat.beq (P.cellsOf t) 0) (Nat.beq fs.size 0)
   | _=>false
 | .unit,.inr p=>match p.1 with
   | []=>true
   | _=>false
 | .pair a b,.inl t=>match P.underlying t with
   | some (.struct fs)=>(match fs.toList with
     | f::r=>z1i (z1i (mtX P nk a (.inl f.type)) (mtX P nk b (.inr (r,a.size)))) (z1i (Nat.beq (P.cellsOf t) (a.size+b.size)) (z1i (Nat.beq f.offset 0) (Nat.beq (P.cellsOf f.type) a.size)))
     | []=>false)
   | _=>false
 | .pair a b,.inr p=>match p.1 with
   | f::r=>z1i (z1i (mtX P nk a (.inl f.type)) (mtX P nk b (.inr (r,p.2+a.size)))) (z1i (Nat.beq f.offset p.2) (Nat.beq (P.cellsOf f.type) a.size))
   | []=>false
 | .nod,.inl t=>nk t
 | _,_=>false
def mtB (P:Program)(u:T)(s:TypeId ⊕ (List Field×Nat)):Bool:=mtX P (fun t=>mtX P (fun t'=>Nat.beq t' t) NodT (.inl t)) u s
section
variable {H:Type} {enc:TypeId×Value->H} {P:Program} {w:World} {base:Nat} {spare:Nat->Bool} {held:Bool}
theorem zub {a b:Nat}(h:Nat.beq a b=true):a=b:=Nat.eq_of_beq_eq_true h
theorem z188 {a:Addr} {cs:List Value} (h0:0<cs.length) (h:∀ i,i<cs.length->w.cell? (a.add i)=cs[i]?):∃ b off,a=⟨b,off,none⟩/\Lies (hp w) b off cs:=by
 obtain⟨b,off,sp⟩:=a;have h00:=h 0 h0;rw[List.getElem?_eq_getElem h0] at h00;have hsp:sp=none:=by simpa[Addr.add] using World.cell?_spot h00
 subst hsp;refine⟨b,off,rfl,?_⟩;have h':∀ i,i<cs.length->w.cell? ⟨b,off+i,none⟩=cs[i]?:=fun i hi=>by rw[<- Go.WideShapes.add_plain];exact h i hi
 have hob:∃ all E fr,w.heap[b]?=some (.cells all E fr):=by
  have:=h' 0 h0;rw[List.getElem?_eq_getElem h0] at this;unfold World.cell? at this;split at this
  . rename_i all E fr hb;exact⟨all,E,fr,hb⟩
  . cases this
 obtain⟨all,E,fr,hb⟩:=hob;have hget:∀ i,i<cs.length->all.toList[off+i]?=cs[i]?:=by
  intro i hi;have:=h' i hi;unfold World.cell? at this;simp only[hb] at this;rw[<- this];simp
 refine⟨all,E,fr,all.toList.take off,all.toList.drop (off+cs.length),hb,?_,?_⟩
 . have hlen:off+cs.length<=all.toList.length:=by
    rcases Nat.lt_or_ge all.toList.length (off+cs.length) with hlt|hge
    . have:=hget (cs.length - 1) (by omega);rw[List.getElem?_eq_none (by omega),List.getElem?_eq_getElem (by omega)] at this;cases this
    . exact hge
   have e:(all.toList.drop off).take cs.length=cs:=by
    apply List.ext_getElem?;intro i;by_cases hi:i<cs.length
    . rw[List.getElem?_take_of_lt hi,List.getElem?_drop,hget i hi]
    . rw[List.getElem?_eq_none (by simp;omega),List.getElem?_eq_none (by omega)]
   have e2:all.toList.drop (off+cs.length)=(all.toList.drop off).drop cs.length:=by rw[List.drop_drop]
   rw[e2]
   conv=>rhs;rw[<- e,List.length_take,List.length_drop,Nat.min_eq_left (by omega)]
   rw[List.take_append_drop,List.take_append_drop]
 . rw[List.length_take];have:=hget 0 h0;rw[List.getElem?_eq_getElem h0] at this;have:off+0<all.toList.length:=by
    rcases Nat.lt_or_ge (off+0) all.toList.length with h|h
    . exact h
    . rw[List.getElem?_eq_none h] at this;cases this
   omega
theorem z14i {α:Type} {R:α->List Value->Prop} {W:α->Prop} {a:Addr} {sz:Nat} (hs:∀ x cs,R x cs->cs.length=sz):∀ (n:Nat),(∀ i,i<n->∃ cs x,cs.length=sz/\(∀ j,j<sz->w.cell? (a.add (i*sz+j))=cs[j]?)/\R x cs/\W x) →
 ∃ xs c,xs.length=n/\All R xs c/\(∀ x∈xs,W x)/\(∀ j,j<n*sz->w.cell? (a.add j)=c[j]?)
 | 0,_=>⟨[],[],rfl,rfl,fun _ h=>(by cases h),fun j hj=>(by simp at hj)⟩
 | n + 1,h=>by
   obtain⟨xs,c,hl,hA,hW,hc⟩:=z14i hs n (fun i hi=>h i (by omega));obtain⟨cs,x,hcl,hcc,hR,hWx⟩:=h n (by omega);refine⟨xs++[x],c++cs,by simp[hl],hA.append (All.one hR),?_,?_⟩
   . intro y hy;rcases List.mem_append.1 hy with hy|hy
     . exact hW y hy
     . simp at hy;rw[hy];exact hWx
   . intro j hj;have hlen:c.length=n*sz:=by rw[All.length hs _ _ hA,hl]
     rcases Nat.lt_or_ge j (n*sz) with hlt|hge
     . rw[hc j hlt,List.getElem?_append_left (by omega)]
     . have:=hcc (j - n*sz) (by rw[Nat.succ_mul] at hj;omega);rw[show n*sz+(j - n*sz)=j by omega] at this;rw[this,List.getElem?_append_right (by omega),hlen]
theorem z19r (a:Addr)(i j:Nat)(h:a.spot=none):(a.add i).add j=a.add (i+j):=by
 obtain⟨b,off,sp⟩:=a;dsimp only at h;subst h;rw[Go.WideShapes.add_plain,Go.WideShapes.add_plain,Go.WideShapes.add_plain,Nat.add_assoc]
theorem z1bl {nk:TypeId->Bool} (F:Nat) (hnk:∀ (t:TypeId) (fuel:Nat) (cs:List Value) x,fuel<F->nk t=true->DataW.trod enc P w base spare held fuel t cs=some x->∃ y:Tree,Rd (hp w) .nod y cs/\WfN y):∀ (u:T),
 (∀ (t:TypeId) (fuel:Nat) (cs:List Value) x,fuel<=F->(u=.nod->fuel<F)->mtX P nk u (.inl t)=true->DataW.trod enc P w base spare held fuel t cs=some x->∃ y,Rd (hp w) u y cs/\Wf u y) ∧
 (∀ (fs:List Field) (off n:Nat) (cs:List Value),n<F->mtX P nk u (.inr (fs,off))=true->(∀ f∈fs,∃ x,DataW.trod enc P w base spare held n f.type ((cs.drop f.offset).take (P.cellsOf f.type))=some x)->cs.length=off+u.size →
  ∃ y,Rd (hp w) u y (cs.drop off)/\Wf u y):=by
 intro u
 induction u with
 | int k =>
   refine⟨fun t fuel cs x hle hlt hm h=>?_,fun fs off n cs hnF hm=>by simp[mtX] at hm⟩;simp only[mtX] at hm;split at hm
   . rename_i k' hu;have hm:k=k':=by simpa using hm
     subst hm;obtain⟨n,rfl,_,hw⟩:=DataW.trod_int hu h;exact⟨n,rfl,hw⟩
   . cases hm
 | bool =>
   refine⟨fun t fuel cs x hle hlt hm h=>?_,fun fs off n cs hnF hm=>by simp[mtX] at hm⟩;simp only[mtX] at hm;split at hm
   . rename_i hu;obtain⟨n,rfl,_⟩:=DataW.trod_bool hu h;exact⟨n,rfl,trivial⟩
   . cases hm
 | str =>
   refine⟨fun t fuel cs x hle hlt hm h=>?_,fun fs off n cs hnF hm=>by simp[mtX] at hm⟩;simp only[mtX] at hm;split at hm
   . rename_i hu;obtain⟨s,rfl,_,hw⟩:=DataW.trod_string hu h;exact⟨s.data.toList,rfl,by simpa[Wf] using hw⟩
   . cases hm
 | opq=>exact⟨fun t fuel cs x hle hlt hm=>by simp[mtX] at hm,fun fs off n cs hnF hm=>by simp[mtX] at hm⟩
 | ptr t _=>exact⟨fun t fuel cs x hle hlt hm=>by simp[mtX] at hm,fun fs off n cs hnF hm=>by simp[mtX] at hm⟩
 | own t _=>exact⟨fun t fuel cs x hle hlt hm=>by simp[mtX] at hm,fun fs off n cs hnF hm=>by simp[mtX] at hm⟩
 | self ty=>exact⟨fun t fuel cs x hle hlt hm=>by simp[mtX] at hm,fun fs off n cs hnF hm=>by simp[mtX] at hm⟩
 | byt ty=>exact⟨fun t fuel cs x hle hlt hm=>by simp[mtX] at hm,fun fs off n cs hnF hm=>by simp[mtX] at hm⟩
 | any=>exact⟨fun t fuel cs x hle hlt hm=>by simp[mtX] at hm,fun fs off n cs hnF hm=>by simp[mtX] at hm⟩
 | mp k v _ _=>exact⟨fun t fuel cs x hle hlt hm=>by simp[mtX] at hm,fun fs off n cs hnF hm=>by simp[mtX] at hm⟩
 | nb t _=>exact⟨fun t fuel cs x hle hlt hm=>by simp[mtX] at hm,fun fs off n cs hnF hm=>by simp[mtX] at hm⟩
 | ifc ty t _=>exact⟨fun t fuel cs x hle hlt hm=>by simp[mtX] at hm,fun fs off n cs hnF hm=>by simp[mtX] at hm⟩
 | nod=>exact⟨fun t fuel cs x hle hlt hm h=>hnk t fuel cs x (hlt rfl) (by simpa[mtX] using hm) h,fun fs off n cs hnF hm=>by simp[mtX] at hm⟩
 | fn f t _=>exact⟨fun t fuel cs x hle hlt hm=>by simp[mtX] at hm,fun fs off n cs hnF hm=>by simp[mtX] at hm⟩
 | unit =>
   refine⟨fun t fuel cs x hle hlt hm h=>?_,fun fs off n cs hnF hm h hl=>⟨(),by simp[Rd];simp[T.size] at hl;omega,trivial⟩⟩;simp only[mtX] at hm;split at hm
   . rename_i fs hu;obtain⟨h1,h2⟩:=z7 hm;obtain⟨xs,n,_,_,hl,_⟩:=DataW.trod_struct hu h;rw[zub h1] at hl;exact⟨(),by simpa[Rd] using hl,trivial⟩
   . cases hm
 | sl u ih =>
   refine⟨fun t fuel cs x hle hlt hm h=>?_,fun fs off n cs hnF hm=>by simp[mtX] at hm⟩;simp only[mtX] at hm;split at hm
   . rename_i e hu;obtain⟨h1,h2⟩:=z7 hm;obtain⟨h2,h3⟩:=z7 h2;have h2:=zub h2;have h3:0<u.size:=by simpa using h3
     rcases DataW.trod_slice hu h with⟨rfl,_⟩|⟨a,len,cap,elems,rest,n,hfu,rfl,_,hb,hl,hc,hel,heach,_⟩
     . exact⟨[],⟨none,0,rfl,by simp,.inl rfl⟩,by simp[Wf]⟩
     . have hee:∀ i,i<len->∃ cs x,cs.length=u.size/\(∀ j,j<u.size->w.cell? (a.add (i*u.size+j))=cs[j]?)/\Rd (hp w) u x cs/\Wf u x:=by
        intro i hi;have hi':=heach i hi;rw[List.getElem?_eq_getElem (by omega)] at hi';obtain⟨cs,hcs,htr⟩:=Option.bind_eq_some_iff.1 hi';obtain⟨x,hR,hW⟩:=ih.1 e n cs _ (by omega) (fun _=>by omega) h1 htr;rw[h2] at hcs;obtain⟨hbb,hcl,hcc⟩:=World.cells?_some hcs;refine⟨cs,x,hcl,fun j hj=>?_,hR,hW⟩;rw[<- hcc j hj,<- z19r];have:=hcc 0 h3;rw[List.getElem?_eq_getElem (by omega)] at this;have h0:((a.add (i*u.size)).add 0).spot=none:=World.cell?_spot this;by_cases hi0:i*u.size=0
        . simpa[Addr.add,hi0] using h0
        . have hlt:0<len:=by omega
          have h00:=heach 0 hlt;rw[List.getElem?_eq_getElem (by omega)] at h00;obtain⟨cs0,hcs0,_⟩:=Option.bind_eq_some_iff.1 h00;rw[h2] at hcs0;obtain⟨_,hcl0,hcc0⟩:=World.cells?_some hcs0;have:=hcc0 0 h3;rw[List.getElem?_eq_getElem (by omega)] at this;have h0:((a.add (0*u.size)).add 0).spot=none:=World.cell?_spot this;simpa[Addr.add] using h0
       obtain⟨xs,c,hxl,hA,hW,hcell⟩:=z14i (Rd.length u) len hee;have hclen:c.length=len*u.size:=by rw[All.length (Rd.length u) _ _ hA,hxl]
       refine⟨xs,⟨some a,cap,by rw[hxl],by omega,?_⟩,by omega,hW⟩;cases xs with
       | nil=>exact .inl rfl
       | cons x xs =>
         have:0<len:=by rw[<- hxl];simp
         have hpos:0<len*u.size:=Nat.mul_pos this h3;obtain⟨b,off,rfl,hlies⟩:=z188 (cs:=c) (by omega) (fun i hi=>hcell i (by omega));exact .inr ⟨b,off,c,rfl,hlies,hA⟩
   . cases hm
 | arr n u ih =>
   refine⟨fun t fuel cs x hle hlt hm h=>?_,fun fs off n cs hnF hm=>by simp[mtX] at hm⟩;simp only[mtX] at hm;split at hm
   . rename_i m e hu;obtain⟨h1,h2⟩:=z7 hm;obtain⟨h2,h3⟩:=z7 h2;obtain⟨h3,h4⟩:=z7 h3;have h2:=zub h2;have h3:=zub h3;have h4:=zub h4;subst h2;obtain⟨xs,k,hfu,_,hl,hxl,heach⟩:=DataW.trod_array hu h;rw[h4] at hl;have key:∀ (n:Nat) (cs:List Value),cs.length=n*u.size->(∀ i,i<n->∃ y,Rd (hp w) u y ((cs.drop (i*u.size)).take u.size)/\Wf u y)->∃ ys,ys.length=n/\All (Rd (hp w) u) ys cs/\∀ y∈ys,Wf u y:=by
      intro n
      induction n with
      | zero=>intro cs hl _;exact⟨[],rfl,by simp at hl;rw[hl];rfl,fun _ h=>by cases h⟩
      | succ n ihn =>
        intro cs hl he;obtain⟨y,hy,hyw⟩:=he 0 (by omega);obtain⟨ys,hyl,hys,hysw⟩:=ihn (cs.drop u.size) (by rw[List.length_drop,hl,Nat.succ_mul];omega) (fun i hi=>by
         have:=he (i+1) (by omega);rw[Nat.succ_mul,Nat.add_comm,<- List.drop_drop] at this;exact this)
        refine⟨y::ys,by simp[hyl],⟨cs.take u.size,cs.drop u.size,by rw[List.take_append_drop],by simpa using hy,hys⟩,?_⟩;intro z hz;rcases List.mem_cons.1 hz with rfl|hz
        . exact hyw
        . exact hysw z hz
     obtain⟨ys,hyl,hys,hyw⟩:=key n cs hl (fun i hi=>by
      have:=heach i hi;rw[List.getElem?_eq_getElem (by omega),h3] at this;exact ih.1 e k _ _ (by omega) (fun _=>by omega) h1 this)
     exact⟨ys,⟨hyl,hys⟩,hyl,hyw⟩
   . cases hm
 | pair a b iha ihb =>
   have fields:∀ (f:Field) (r:List Field) (off n:Nat) (cs:List Value),n<F->mtX P nk a (.inl f.type)=true->mtX P nk b (.inr (r,off+a.size))=true->f.offset=off->P.cellsOf f.type=a.size →
    (∀ g∈f::r,∃ x,DataW.trod enc P w base spare held n g.type ((cs.drop g.offset).take (P.cellsOf g.type))=some x)->cs.length=off+(a.size+b.size)->∃ y,Rd (hp w) (.pair a b) y (cs.drop off)/\Wf (.pair a b) y:=by
    intro f r off n cs hnF h1 h2 h3 h4 he hl;obtain⟨x,hx⟩:=he f (by simp);rw[h3,h4] at hx;obtain⟨y,hy,hyw⟩:=iha.1 _ _ _ _ (by omega) (fun _=>hnF) h1 hx;obtain⟨z,hz,hzw⟩:=ihb.2 r (off+a.size) n cs hnF h2 (fun g hg=>he g (by simp[hg])) (by omega);exact⟨(y,z),⟨_,_,by rw[<- List.drop_drop,List.take_append_drop],hy,hz⟩,hyw,hzw⟩
   constructor
   . intro t fuel cs x hle hlt hm h;simp only[mtX] at hm;split at hm
     . rename_i fs hu;split at hm
       . rename_i f r hfs;obtain⟨h1,h2⟩:=z7 hm;obtain⟨h0,h1'⟩:=z7 h1;obtain⟨h2,h3⟩:=z7 h2;obtain⟨h3,h4⟩:=z7 h3;obtain⟨xs,k,hfu,_,hl,hxl,heach⟩:=DataW.trod_struct hu h;rw[zub h2] at hl;have:=fields f r 0 k cs (by omega) h0 (by rw[Nat.zero_add];exact h1') (zub h3) (zub h4) (fun g hg=>by
          rw[<- hfs] at hg;obtain⟨i,hi,rfl⟩:=List.getElem_of_mem hg;have hi':i<fs.size:=by simpa using hi
          have:=heach i fs[i] (by rw[Array.getElem?_eq_getElem hi']);rw[List.getElem?_eq_getElem (by omega)] at this;exact⟨_,by simpa using this⟩) (by omega)
         simpa using this
       . cases hm
     . cases hm
   . intro fs off n cs hnF hm he hl;simp only[mtX] at hm;split at hm
     . rename_i f r;obtain⟨h1,h2⟩:=z7 hm;obtain⟨h0,h1'⟩:=z7 h1;obtain⟨h3,h4⟩:=z7 h2;exact fields f r off n cs hnF h0 h1' (zub h3) (zub h4) he hl
     . cases hm
theorem zvb {t:TypeId}(ht:mtX P (fun t'=>Nat.beq t' t) NodT (.inl t)=true):∀ (F fuel:Nat) (cs:List Value) x,fuel<F->DataW.trod enc P w base spare held fuel t cs=some x->∃ y:Tree,Rd (hp w) .nod y cs/\WfN y
 | 0,_,_,_,h,_=>absurd h (Nat.not_lt_zero _)
 | F + 1,fuel,cs,x,h,htr=>by
   obtain⟨y,hy,hw⟩:=(z1bl (nk:=fun t'=>Nat.beq t' t) F (fun t' fuel cs x hlt hk h=>by
    have:=zub hk;subst this;exact zvb ht F fuel cs x hlt h) NodT).1 t fuel cs x (by omega) (by intro e;cases e) ht htr
   refine⟨foN y,(zw0 (foN y) cs).2 hy,?_⟩;obtain⟨k,st,ks,lo,hi,u⟩:=y;obtain⟨h1,⟨h2,h3⟩,⟨h4,h5⟩,h6,h7,_⟩:=hw;unfold foN WfN;exact⟨h1,⟨h2,h3⟩,⟨h4,(zvz ks).2 h5⟩,h6,h7⟩
theorem z1bk (u:T)(t:TypeId)(fuel:Nat)(cs:List Value)(x:DataW H×List MemPlace)(hm:mtB P u (.inl t)=true)(h:DataW.trod enc P w base spare held fuel t cs=some x):∃ y,Rd (hp w) u y cs/\Wf u y :=
 (z1bl (fuel+1) (fun t fuel' cs x hlt hk h=>zvb hk (fuel'+1) fuel' cs x (by omega) h) u).1 t fuel cs x (by omega) (fun _=>by omega) hm h
theorem zsy {r:Reach}{b0:Nat}{t:TypeId}{v:Value}(h:Value.okWide P w r b0 t v)(hs:∀ fs,P.underlying t≠some (.struct fs))(ha:∀ n e,P.underlying t≠some (.array n e)):v.cells=#[v]:=by
 unfold Value.okWide at h;split at h
 . rename_i fs hu;exact absurd hu (hs fs)
 . rename_i n e hu;exact absurd hu (ha n e)
 . have no:∀ cs,Cell.okWide P w r b0 t (.agg cs)->False:=by
    intro cs;unfold Cell.okWide Cell.ok;generalize P.underlying t=o;cases o with
    | none=>exact id
    | some d=>cases d<;>exact id
   cases v<;>first
    | rfl
    | exact (no _ h).elim
theorem z12e {r:Reach} {b0:Nat} {u:T} {t:TypeId} {v:Value} {d:DataW H} {ps:List MemPlace} (hm:mtB P u (.inl t)=true) (hval:Value.okWide P w r b0 t v) (hd:DataW.Trod enc P w base spare held t v d ps):∃ y,VR (hp w) u y v/\Wf u y:=by
 obtain⟨fuel,hf⟩:=hd;obtain⟨y,hy,hw⟩:=z1bk u t fuel _ _ hm hf;refine⟨y,?_,hw⟩;cases hu:u.isAgg with
 | false =>
   have:v.cells=#[v]:=by
    apply zsy hval
    . intro fs e;cases u<;>simp[T.isAgg] at hu<;>simp[mtB,mtX,e] at hm
    . intro n e' e;cases u<;>simp[T.isAgg] at hu<;>simp[mtB,mtX,e] at hm
   rw[this] at hy;exact VR.of_one hu hy
 | true =>
   have:∃ cs,v=.agg cs:=by
    unfold Value.okWide at hval;split at hval
    . obtain⟨cs,rfl,_⟩:=hval;exact⟨cs,rfl⟩
    . obtain⟨cs,rfl,_⟩:=hval;exact⟨cs,rfl⟩
    . rename_i h1 h2;exfalso;cases u<;>try (cases hu;done)
      case nod =>
       unfold mtB mtX mtX at hm;generalize hq:P.underlying t=q at hm;cases q with
       | none=>cases hm
       | some d=>cases d<;>first
         | (cases hm;done)
         | exact h1 _ hq
      case unit =>
       unfold mtB mtX at hm;generalize hq:P.underlying t=q at hm;cases q with
       | none=>cases hm
       | some d=>cases d<;>first
         | (cases hm;done)
         | exact h1 _ hq
      case pair =>
       unfold mtB mtX at hm;generalize hq:P.underlying t=q at hm;cases q with
       | none=>cases hm
       | some d=>cases d<;>first
         | (cases hm;done)
         | exact h1 _ hq
      case arr =>
       unfold mtB mtX at hm;generalize hq:P.underlying t=q at hm;cases q with
       | none=>cases hm
       | some d=>cases d<;>first
         | (cases hm;done)
         | exact h2 _ _ hq
   obtain⟨cs,rfl⟩:=this;exact VR.of_agg hu hy
def z8s:List T->List (Nat×AS)
 | []=>[]
 | u::us=>(0,.v u)::z8s us
def WfS:(us:List T)->z1k (z8s us)->Prop
 | [],_=>True
 | u::us,x=>Wf u x.1/\WfS us x.2
def zz9 (P:Program):List T->List TypeId->Bool
 | [],[]=>true
 | u::us,t::ts=>z1i (zz9 P us ts) (mtB P u (.inl t))
 | _,_=>false
theorem zvc:∀ {us:List T} {ts:List TypeId} {vs:List Value} {ds:List (DataW H)} {p:List MemPlace} {r:Reach} {b0:Nat},zz9 P us ts=true->(∀ (j:Nat) t v,ts[j]?=some t->vs[j]?=some v->Value.okWide P w r b0 t v) →
 DataW.TrodAll enc P w base spare held ts vs ds p->∃ x:z1k (z8s us),ArgsRel (hp w) (hp w) (mkS (z8s us) 0 x) vs (fun _=>[])/\WfS us x
 | [],ts,vs,ds,p,r,b0,hm,hval,hA=>by
   cases ts with
   | cons t ts=>simp[zz9] at hm
   | nil =>
     cases vs with
     | cons v vs=>cases ds<;>simp[DataW.TrodAll] at hA
     | nil=>exact⟨(),⟨rfl,fun i x h=>(by simp[z8s,mkS,z39] at h),fun _ _=>rfl,fun i j b h=>(by cases h),fun _=>.nil,fun i b h=>by cases h⟩,trivial⟩
 | u :: us,ts,vs,ds,p,r,b0,hm,hval,hA=>by
   cases ts with
   | nil=>simp[zz9] at hm
   | cons t ts =>
     obtain⟨h1,h2⟩:=z7 hm;obtain⟨v,vs',d,ds',p1,q1,rfl,rfl,rfl,hd,hA'⟩:=Go.ChangeShapes.trodAll_cons hA;obtain⟨y,hy,hyw⟩:=z12e h2 (hval 0 t v rfl rfl) hd;obtain⟨x,hx,hxw⟩:=zvc h1 (fun j t' v' ht hv=>hval (j+1) t' v' (by simpa using ht) (by simpa using hv)) hA';refine⟨(y,x),⟨?_,?_,fun _ _=>rfl,fun i j b h=>(by cases h),fun _=>.nil,fun i b h=>by cases h⟩,hyw,hxw⟩
     . have:=hx.len;simp only[z8s,mkS,z39,List.length_cons] at this ⊢;simpa[z8s] using this
     . intro i z hz;cases i with
       | zero =>
         simp only[z8s,mkS,z39,List.getElem?_cons_zero,Option.some.injEq] at hz;subst hz;exact⟨⟨v,rfl,hy,rfl⟩,rfl⟩
       | succ i =>
         simp only[z8s,mkS,z39,List.getElem?_cons_succ] at hz;simpa using hx.rel i z hz
theorem zge (hl:laidOutB P=true){W W':World}(hb:Below W.heap.size W W'):∀ {ts:List TypeId} {vs:List Value} {ds:List (DataW H)} {p:List MemPlace},(ts.all fun t=>P.readableRec t && decide (t<P.types.size))=true →
 DataW.TrodAll enc P W 0 (fun _=>true) true ts vs ds p->DataW.TrodAll enc P W' 0 (fun b=>decide (b<W.heap.size)) true ts vs ds p
 | [],vs,ds,p,_,hA=>by
   cases vs<;>cases ds<;>first
    | (simp[DataW.TrodAll] at hA;done)
    | exact hA
 | t::ts,vs,ds,p,hr,hA=>by
   obtain⟨v,vs',d,ds',p1,q1,rfl,rfl,rfl,hd,hA'⟩:=Go.ChangeShapes.trodAll_cons hA;simp only[List.all_cons,Bool.and_eq_true,decide_eq_true_eq] at hr;refine trodAll_cons_mk (Below.trod hl hr.1.1 hr.1.2 hd hb ?_) (zge hl hb hr.2 hA');obtain⟨m,hm⟩:=hd;exact DataW.trod_lt m _ _ _ hm
theorem WF.below {w w':World}{B:Nat->Prop}(h:WF w B w')(hB:∀ b,¬ B b):Below w.heap.size w w':=⟨h.os,h.tape,h.output,h.size,fun k hk=>h.same k hk (hB k)⟩
theorem z1dj {glob:Nat->Option Dat}{f:FuncId}{us:List T}{F:z1k (z8s us)->Option Bool}{out:Bool->A×List A}(hc:Contract P glob f (z14 (z8s us) F out))(hout:∀ b,(out b).1=.v .bool b)
 {vs:Array Value} {x:z1k (z8s us)} (hx:ArgsRel (hp w) (hp w) (mkS (z8s us) 0 x) vs.toList (fun _=>[])) (hg:GlobOk glob (hp w)) (hF:F x=some true) (hun:unS (z8s us) 0 (mkS (z8s us) 0 x)=some x) :
 Calls P f vs w fun e w'=>e=.returned (.bool true)/\Below w.heap.size w w':=by
 have hv:(z14 (z8s us) F out (mkS (z8s us) 0 x))=⟨Bool,F x,out⟩:=by unfold z14;rw[hun]
 have key:=hc.2 w (hp w) _ vs.toList _ hx (Sub.refl _) hg;rw[hv] at key;refine (key true hF).mono ?_;rintro e w' ⟨v,S',o,ob',rfl,hwf,_,_,_,⟨hrel,_⟩,_⟩;dsimp only at hrel;rw[hout] at hrel;exact⟨by rw[hrel.1.bool_inv],hwf.below (fun b ⟨i,hi⟩=>by cases hi)⟩
theorem z10l {t:T}{x:t.den}:cast t t x=some x:=by simp[cast]
theorem zui:∀ {us:List T} {x:z1k (z8s us)},unS (z8s us) 0 (mkS (z8s us) 0 x)=some x
 | [],x=>rfl
 | u::us,x=>by
   have:=zui (us:=us) (x:=x.2);simp only[z8s,mkS,z39,unS,zhv,AS.mk,AS.un,z10l,this];rfl
end
end
end Go.Lift
