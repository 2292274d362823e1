import Derived.Test.YtnnjnkjfkaaikaaDoorLgV
set_option linter.all false
namespace Go.Lift
noncomputable section
open Go.RowKit
theorem z1j7 {H:Type}{enc:TypeId×Value->H}{P:Program}{W:World}{base b0:Nat}{r:Reach}{spare:Nat->Bool}{held:Bool}{glob:Nat->Option Dat}{f:FuncId}{us:List T}{ts:List TypeId}{m:Nat}
 {F:Nat->zw (z9h us)->Option Bool} {args:Array Value} {ds:List (DataW H)} {p:List MemPlace}
 (hm:z108 P us ts=true) (hc:∀ N,Contract P glob f (zy (z9h us) (F N) (z6e (.v .bool) m))) (hF:∀ x,WfS us x->∃ N,F N x=some true) (hg:GlobOk glob (hp W))
 (hval:∀ (j:Nat) t v,ts[j]?=some t->args[j]?=some v->Value.okWide P W r b0 t v) (hA:DataW.TrodAll enc P W base spare held ts args.toList ds p) :
 Calls P f args W fun e w'=>e=.returned (.bool true)/\Below W.heap.size W w':=by
 obtain⟨x,hx,hw⟩:=zsd (us:=us) hm (fun j t v ht hv=>hval j t v ht (by simpa using hv)) hA;obtain⟨N,hN⟩:=hF x hw;exact z17e (hc N) (fun _=>rfl) hx hg hN zrt
end
end Go.Lift
