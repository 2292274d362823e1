import Derived.Test.YthgcpalmjcomlaaDoorLgV
set_option linter.all false
namespace Go.Lift
noncomputable section
open Go.RowKit
theorem z12c {H:Type}{enc:TypeId×Value->H}{P:Program}{W:World}{base b0:Nat}{r:Reach}{spare:Nat->Bool}{held:Bool}{glob:Nat->Option Dat}{f:FuncId}{us:List T}{ts:List TypeId}{m:Nat}
 {F:Nat->z1e (zbs us)->Option Bool} {args:Array Value} {ds:List (DataW H)} {p:List MemPlace}
 (hm:z122 P us ts=true) (hc:∀ N,Contract P glob f (z1a (zbs us) (F N) (zb8 (.v .bool) m))) (hF:∀ x,WfS us x->∃ N,F N x=some true) (hg:GlobOk glob (hp W))
 (hval:∀ (j:Nat) t v,ts[j]?=some t->args[j]?=some v->Value.okWide P W r b0 t v) (hA:DataW.TrodAll enc P W base spare held ts args.toList ds p) :
 Calls P f args W fun e w'=>e=.returned (.bool true)/\Below W.heap.size W w':=by
 obtain⟨x,hx,hw⟩:=zxd (us:=us) hm (fun j t v ht hv=>hval j t v ht (by simpa using hv)) hA;obtain⟨N,hN⟩:=hF x hw;exact z1gx (hc N) (fun _=>rfl) hx hg hN zwm
end
end Go.Lift
