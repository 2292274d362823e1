import Derived.Test.YtaackaafmidjkaaDoorLgV
set_option linter.all false
namespace Go.Lift
noncomputable section
open Go.RowKit

theorem z12h {H : Type} {enc : TypeId × Value -> H} {P : Program} {W : World} {base b0 : Nat} {r : Reach} {spare : Nat -> Bool} {held : Bool} {glob : Nat -> Option Dat} {f : FuncId} {us : List T} {ts : List TypeId} {m : Nat}
    {F : Nat -> z2d (za4 us) -> Option Bool} {args : Array Value} {ds : List (DataW H)} {p : List MemPlace}
    (hm : z125 P us ts = true) (hc : ∀ N, Contract P glob f (z1t (za4 us) (F N) (zev (.v .bool) m))) (hF : ∀ x, WfS us x -> ∃ N, F N x = some true) (hg : GlobOk glob (hp W))
    (hval : ∀ (j : Nat) t v, ts[j]? = some t -> args[j]? = some v -> Value.okWide P W r b0 t v) (hA : DataW.TrodAll enc P W base spare held ts args.toList ds p) :
    Calls P f args W fun e w' => e = .returned (.bool true) /\ Below W.heap.size W w' := by
  obtain ⟨x, hx, hw⟩ := zy8 (us := us) hm (fun j t v ht hv => hval j t v ht (by simpa using hv)) hA
  obtain ⟨N, hN⟩ := hF x hw
  exact z191 (hc N) (fun _ => rfl) hx hg hN zx9
end
end Go.Lift

