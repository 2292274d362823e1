import Derived.Test.YtdeemkigjeemjaaLgW
set_option linter.all false
namespace Go.Proofs.YtdeemkigjeemjaaPx
noncomputable section
open Go Go.Lift



end
end Go.Proofs.YtdeemkigjeemjaaPx
