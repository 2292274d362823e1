/- Layer 6: the examples. -/
import Derived.Test.YtkccmmbomlpgnaaDoorLgFnG
import Derived.KernelRfl
set_option linter.all false
set_option maxRecDepth 100000
namespace Go.Proofs.YtkccmmbomlpgnaaDoorLg
open Go Go.Lift
theorem works6 (k : Nat) : porterlaw06_works (k + 2300) = some true := by kernel_rfl

end Go.Proofs.YtkccmmbomlpgnaaDoorLg
