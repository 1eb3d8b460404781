/-
The law of one mender more, and of the pair that costs most.
-/
import Derived.Test.YtekoplcnlhanbaaS3
import Derived.Test.YtekoplcnlhanbaaNb
namespace Go.Proofs.Ytekoplcnlhanbaa.S
open Go Go.Am Go.Proofs.Ytekoplcnlhanbaa.T
set_option maxRecDepth 100000
set_option linter.unusedSimpArgs false
set_option linter.unusedVariables false

section
variable {n : Net} {g p : AV}
end
end Go.Proofs.Ytekoplcnlhanbaa.S

