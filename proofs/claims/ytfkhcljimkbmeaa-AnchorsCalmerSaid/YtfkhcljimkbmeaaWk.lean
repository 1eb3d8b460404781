import Derived.Test.YtfkhcljimkbmeaaTab
import Derived.Test.YtfkhcljimkbmeaaAmY
namespace Go.Proofs.Ytfkhcljimkbmeaa.S
open Go Go.Am Go.Proofs.Ytfkhcljimkbmeaa.T
theorem works_run : (callN E 100 (.fn 16) [] [] 0).map (·.1) = some (.bool true) := by kernel_rfl
end Go.Proofs.Ytfkhcljimkbmeaa.S
