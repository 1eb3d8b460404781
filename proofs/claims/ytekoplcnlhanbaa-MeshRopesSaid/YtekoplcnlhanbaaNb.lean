/-
The laws by which the program answers as the specification does.
-/
import Derived.Test.YtekoplcnlhanbaaNa
namespace Go.Proofs.Ytekoplcnlhanbaa.S
open Go Go.Am Go.Proofs.Ytekoplcnlhanbaa.T
set_option maxRecDepth 100000
set_option linter.unusedSimpArgs false
set_option linter.unusedVariables false

section
variable {n : Net} {g p : AV} {l : List Int} {v : AV}
end
end Go.Proofs.Ytekoplcnlhanbaa.S

