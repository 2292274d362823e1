/- Layer 34: the examples. -/
import Derived.Test.YtkccmmbomlpgnaaDoorLgFnG
import Derived.KernelRfl
set_option linter.all false
set_option maxRecDepth 100000
namespace Go.Proofs.YtkccmmbomlpgnaaDoorLg
open Go Go.Lift
theorem works34 (k : Nat) : porterlaw34_works (k + 700) = some true := by kernel_rfl

end Go.Proofs.YtkccmmbomlpgnaaDoorLg
