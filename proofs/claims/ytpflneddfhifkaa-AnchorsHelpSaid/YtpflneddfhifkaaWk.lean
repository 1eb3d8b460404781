import Derived.Test.YtpflneddfhifkaaTab
import Derived.Test.YtpflneddfhifkaaAmY
namespace Go.Proofs.Ytpflneddfhifkaa.S
open Go Go.Am Go.Proofs.Ytpflneddfhifkaa.T
theorem works_run : (callN E 100 (.fn 16) [] [] 0).map (·.1) = some (.bool true) := by kernel_rfl
end Go.Proofs.Ytpflneddfhifkaa.S
