import Derived.Test.YtlhdohlpilippaaDoorLgV
set_option linter.all false
namespace Go.Lift
noncomputable section
open Go.RowKit
theorem zzm {H:Type}{enc:TypeId×Value->H}{P:Program}{W:World}{base b0:Nat}{r:Reach}{spare:Nat->Bool}{held:Bool}{glob:Nat->Option Dat}{f:FuncId}{us:List T}{ts:List TypeId}{m:Nat}
 {F:Nat->z1k (z8s us)->Option Bool} {args:Array Value} {ds:List (DataW H)} {p:List MemPlace}
 (hm:zz9 P us ts=true) (hc:∀ N,Contract P glob f (z14 (z8s us) (F N) (z3r (.v .bool) m))) (hF:∀ x,WfS us x->∃ N,F N x=some true) (hg:GlobOk glob (hp W))
 (hval:∀ (j:Nat) t v,ts[j]?=some t->args[j]?=some v->Value.okWide P W r b0 t v) (hA:DataW.TrodAll enc P W base spare held ts args.toList ds p) :
 Calls P f args W fun e w'=>e=.returned (.bool true)/\Below W.heap.size W w':=by
 obtain⟨x,hx,hw⟩:=zvc (us:=us) hm (fun j t v ht hv=>hval j t v ht (by simpa using hv)) hA;obtain⟨N,hN⟩:=hF x hw;exact z1dj (hc N) (fun _=>rfl) hx hg hN zui
end
end Go.Lift
