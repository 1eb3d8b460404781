/-
CutsHolds and CutsPrice.
-/
import Derived.Test.YteonklnjchefiaaZd
namespace Go.Proofs.Yteonklnjchefiaa.S
open Go Go.Am Go.Proofs.Yteonklnjchefiaa.T
set_option maxRecDepth 100000
set_option linter.unusedSimpArgs false
set_option linter.unusedVariables false

section
variable {t : List Pt} {v : AV}
end
end Go.Proofs.Yteonklnjchefiaa.S

