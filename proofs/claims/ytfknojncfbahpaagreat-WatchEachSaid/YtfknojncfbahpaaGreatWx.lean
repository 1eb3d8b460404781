/-
The law on Lies, False and Blame.
-/
import Derived.Test.YtfknojncfbahpaaGreatWs
import Derived.Test.YtfknojncfbahpaaGreatWt
import Derived.Test.YtfknojncfbahpaaGreatWv
namespace Go.Proofs.YtfknojncfbahpaaGreat.S
open Go Go.Am Go.Proofs.YtfknojncfbahpaaGreat.T
set_option maxRecDepth 100000
set_option linter.unusedSimpArgs false
set_option linter.unusedVariables false
section
variable {b : Bk} {o w s : AV}
end
end Go.Proofs.YtfknojncfbahpaaGreat.S
