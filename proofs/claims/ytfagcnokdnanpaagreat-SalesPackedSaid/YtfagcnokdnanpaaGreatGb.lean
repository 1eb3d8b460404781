/-
The specification's lists of numbers.
-/
import Derived.Test.YtfagcnokdnanpaaGreatGa
namespace Go.Proofs.YtfagcnokdnanpaaGreat.S
open Go Go.Am Go.Proofs.YtfagcnokdnanpaaGreat.T
set_option maxRecDepth 100000
set_option linter.unusedSimpArgs false
set_option linter.unusedVariables false
end Go.Proofs.YtfagcnokdnanpaaGreat.S
