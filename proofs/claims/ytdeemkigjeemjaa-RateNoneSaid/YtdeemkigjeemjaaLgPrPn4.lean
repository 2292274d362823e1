import Derived.Test.YtdeemkigjeemjaaLgPrPn3
import Derived.Test.YtdeemkigjeemjaaLgPrPn1
import Derived.Lib.MapLaws
set_option linter.all false
set_option maxRecDepth 100000
namespace Go.Proofs.YtdeemkigjeemjaaLg
noncomputable section
open Go Go.Lift Go.Proofs.YtdeemkigjeemjaaPx


theorem zp0 (k : Nat) : z2u (k + 1000) = some true := by kernel_rfl

theorem zk3 (k : Nat) (t c : List UInt8) (now : Int) : z16 (k + 1000) t c now = some true := by
  simp only [z16, zp0, Option.bind_some]

end
end Go.Proofs.YtdeemkigjeemjaaLg
