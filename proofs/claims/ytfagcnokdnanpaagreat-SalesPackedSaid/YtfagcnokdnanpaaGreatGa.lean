/-
SalesGood: equal fairs, the specification's Ready and Good.
-/
import Derived.Test.YtfagcnokdnanpaaGreatFv
namespace Go.Proofs.YtfagcnokdnanpaaGreat.S
open Go Go.Am Go.Proofs.YtfagcnokdnanpaaGreat.T
set_option maxRecDepth 100000
set_option linter.unusedSimpArgs false
set_option linter.unusedVariables false
section
variable {f : Fs} {k p b pv bv : AV} {w : Nat → AV}
end
end Go.Proofs.YtfagcnokdnanpaaGreat.S
