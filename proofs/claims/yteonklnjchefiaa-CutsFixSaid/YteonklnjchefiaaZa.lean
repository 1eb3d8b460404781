/-
One weight alone, one waste alone: what truths are left (for the laws that compare).
-/
import Derived.Test.YteonklnjchefiaaYq
namespace Go.Proofs.Yteonklnjchefiaa.S
open Go Go.Am Go.Proofs.Yteonklnjchefiaa.T
set_option maxRecDepth 100000
set_option linter.unusedSimpArgs false
set_option linter.unusedVariables false

section
variable {t : List Pt}
end
end Go.Proofs.Yteonklnjchefiaa.S

