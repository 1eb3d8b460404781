/-
The specification: Change, Changed and Fix.
-/
import Derived.Test.YteonklnjchefiaaZe
namespace Go.Proofs.Yteonklnjchefiaa.S
open Go Go.Am Go.Proofs.Yteonklnjchefiaa.T
set_option maxRecDepth 100000
set_option linter.unusedSimpArgs false
set_option linter.unusedVariables false

section
variable {t : List Pt} {v : AV}
/-! costs of changes by which one part is kept, or is changed -/
end
end Go.Proofs.Yteonklnjchefiaa.S

