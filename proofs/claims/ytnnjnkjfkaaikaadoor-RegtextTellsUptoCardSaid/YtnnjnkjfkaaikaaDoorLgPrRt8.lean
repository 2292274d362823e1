import Derived.Test.YtnnjnkjfkaaikaaDoorLgPrRt7
import Derived.Test.YtnnjnkjfkaaikaaDoorLgW
import GoSem.ClaimJoined
set_option linter.all false
namespace Go.Lift
noncomputable section
open Go.RowKit Go.WideShapes
theorem zug {S:Hp}:∀ {ks:List Tree} {c1:List Value} {i:Nat},RdNs S ks c1->(h:i<ks.length)->RdN S ks[i] ((c1.drop (i*8)).take 8)/\i*8+8<=c1.length
 | x::xs,c1,0,hr,_=>by
   rw[RdNs] at hr;obtain⟨a,b,rfl,h1,h2⟩:=hr;have hl:=RdN.length x a h1;refine⟨?_,by rw[List.length_append];omega⟩;rw[Nat.zero_mul,List.drop_zero,List.take_append_of_le_length (by omega),List.take_of_length_le (by omega)];exact h1
 | x::xs,c1,i+1,hr,h=>by
   rw[RdNs] at hr;obtain⟨a,b,rfl,h1,h2⟩:=hr;have hl:=RdN.length x a h1;have ih:=zug (i:=i) h2 (by simpa using h);refine⟨?_,by rw[List.length_append,Nat.add_mul];omega⟩;rw[show (i+1)*8=8+i*8 by omega,<- List.drop_drop,show List.drop 8 (a++b)=b by rw[<- hl,List.drop_left]];exact ih.1
theorem zqc {H:Type}{enc:TypeId×Value->H}{P:Program}{W:World}{base b0:Nat}{r:Reach}{spare:Nat->Bool}{held:Bool}{glob:Nat->Option Dat}{f:FuncId}{us:List T}{ts:List TypeId}{m:Nat}
 {F:Nat->zw (z9h us)->Option Bool} {args:Array Value} {ds:List (DataW H)} {p:List MemPlace} (Q:zw (z9h us)->Prop)
 (hm:z108 P us ts=true) (hc:∀ N,Contract P glob f (zy (z9h us) (F N) (z6e (.v .bool) m))) (hF:∀ x,WfS us x->Q x->∃ N,F N x=some true) (hg:GlobOk glob (hp W))
 (hval:∀ (j:Nat) t v,ts[j]?=some t->args[j]?=some v->Value.okWide P W r b0 t v) (hA:DataW.TrodAll enc P W base spare held ts args.toList ds p)
 (hQ:∀ x,ArgsRel (hp W) (hp W) (mkS (z9h us) 0 x) args.toList (fun _=>[])->Q x) :
 Calls P f args W fun e w'=>e=.returned (.bool true)/\Below W.heap.size W w':=by
 obtain⟨x,hx,hw⟩:=zsd (us:=us) hm (fun j t v ht hv=>hval j t v ht (by simpa using hv)) hA;obtain⟨N,hN⟩:=hF x hw (hQ x hx);exact z17e (hc N) (fun _=>rfl) hx hg hN zrt
def nodB (P:Program) (t:TypeId):Bool:=match P.underlying t with
 | some (.struct fs)=>match fs[2]? with
   | some f=>decide (f.offset=5) && (decide (P.cellsOf f.type=1) && (decide (P.cellsOf t=8) && (decide (0<P.bytesOf t) && match P.underlying f.type with
     | some (.slice e)=>Nat.beq e t
     | _=>false)))
   | none=>false
 | _=>false
theorem z19g {P:Program} {t:TypeId} (h:nodB P t=true):∃ fs f,P.underlying t=some (.struct fs)/\fs[2]?=some f/\f.offset=5/\P.cellsOf f.type=1/\P.underlying f.type=some (.slice t)/\P.cellsOf t=8/\0<P.bytesOf t:=by
 unfold nodB at h;split at h
 . rename_i fs hu;split at h
   . rename_i f hf;rw[Bool.and_eq_true,Bool.and_eq_true,Bool.and_eq_true,Bool.and_eq_true] at h;obtain⟨h1,h2,h3,h4,h5⟩:=h;split at h5
     . rename_i e he;have:=Nat.eq_of_beq_eq_true h5;subst this;exact⟨fs,f,hu,hf,of_decide_eq_true h1,of_decide_eq_true h2,he,of_decide_eq_true h3,of_decide_eq_true h4⟩
     . cases h5
   . cases h
 . cases h
end
end Go.Lift
