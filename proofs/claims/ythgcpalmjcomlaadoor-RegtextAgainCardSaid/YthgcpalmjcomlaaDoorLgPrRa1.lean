import Derived.Test.YthgcpalmjcomlaaDoorLgW
set_option linter.all false
namespace Go.Proofs.YthgcpalmjcomlaaDoorPx
noncomputable section
open Go Go.Lift
theorem zgp {σ β:Type}{step:σ->(σ->Option β)->Option β}(I:σ->Prop)(m:σ->Nat)(R:σ->Option β)
 (h:∀ v r,I v->(∀ v',I v'->m v'<m v->r v'=R v')->step v r=R v):∀ (n:Nat) (v:σ),I v->m v<n->iter step n v=R v
 | 0,v,_,hm=>by omega
 | n+1,v,hv,hm=>h v (iter step n) hv fun v' hv' hlt=>zgp I m R h n v' hv' (by omega)
theorem wrap64 (x:Int):IntKind.wrap .i64 x=(x+9223372036854775808) % 18446744073709551616 - 9223372036854775808:=by
 simp only[IntKind.wrap,IntKind.bits,IntKind.signed,Bool.true_and,decide_eq_true_eq,Nat.add_one_sub_one,Int.reducePow,ge_iff_le];split<;>omega
def I64 (x:Int):Prop:=-9223372036854775808<=x/\x<=9223372036854775807
instance (x:Int):Decidable (I64 x):=by unfold I64;infer_instance
theorem z5q {x:Int}(h:I64 x):IntKind.wrap .i64 x=x:=by
 rw[wrap64];unfold I64 at h;omega
theorem z2a {α:Type}{b:Bool}(h:b=true)(x y:α):cond b x y=x:=by rw[h];rfl
theorem z6u {α:Type}{b:Bool}(h:b=false)(x y:α):cond b x y=y:=by rw[h];rfl
theorem zcs {n len:Nat}(h:n<len):inR (n:Int) len=true:=by simp only[inR,decide_eq_true_eq];omega
def zot:T->Bool
 | .int _=>true
 | .bool=>true
 | .str=>true
 | .unit=>true
 | .pair a b=>zot a && zot b
 | .arr _ t=>zot t
 | _=>false
theorem zio:∀ (t:T) (x y:t.den),zot t=true->(eqD t x y=true ↔ x=y)
 | .int _,x,y,_=>by simp[eqD]
 | .bool,x,y,_=>by simp[eqD]
 | .str,x,y,_=>by simp[eqD]
 | .unit,x,y,_=>by simp[eqD]
 | .pair a b,x,y,h=>by
   simp only[zot,Bool.and_eq_true] at h;have h1:=zio a x.1 y.1 h.1;have h2:=zio b x.2 y.2 h.2;simp only[eqD];cases hq:eqD a x.1 y.1 with
   | false =>
     rw[hq] at h1;simp only[cond_false,Bool.false_eq_true,false_iff];intro e;exact absurd (h1.2 (by rw[e])) (by simp)
   | true =>
     rw[cond_true,h2];constructor
     . intro e;exact Prod.ext (h1.1 hq) e
     . intro e;rw[e]
 | .arr n t,xs,ys,h=>by
   have h:zot t=true:=h;simp only[eqD]
   induction xs generalizing ys with
   | nil=>cases ys<;>simp[zy0]
   | cons x xs ih =>
     cases ys with
     | nil=>simp[zy0]
     | cons y ys =>
       have h1:=zio t x y h;simp only[zy0];cases hq:eqD t x y with
       | false =>
         rw[hq] at h1;simp only[cond_false,Bool.false_eq_true,false_iff];intro e;exact absurd (h1.2 (List.cons.inj e).1) (by simp)
       | true =>
         rw[cond_true];have h2:zy0 (eqD t) xs ys=true ↔ xs=ys:=ih ys;constructor
         . intro e;rw[h1.1 hq,h2.1 e]
         . intro e;exact h2.2 (List.cons.inj e).2
 | .opq,x,y,h=>by simp[zot] at h
 | .sl _,x,y,h=>by simp[zot] at h
 | .ptr _,x,y,h=>by simp[zot] at h
theorem z1bc {t:T}(h:zot t=true){x y:t.den}[d:Decidable (x=y)]:eqD t x y=decide (x=y):=by
 rw[Bool.eq_iff_iff,zio t x y h,decide_eq_true_eq]
end
end Go.Proofs.YthgcpalmjcomlaaDoorPx
