/-
The specification's sales are all sales.
-/
import Derived.Test.YtfagcnokdnanpaaGreatGb
namespace Go.Proofs.YtfagcnokdnanpaaGreat.S
open Go Go.Am Go.Proofs.YtfagcnokdnanpaaGreat.T
set_option maxRecDepth 100000
set_option linter.unusedSimpArgs false
set_option linter.unusedVariables false
section
variable {f : Fs} {k p b pv bv : AV} {w : Nat → AV}
theorem getD_memL2 {L : List (List Int)} {i : Nat} (hi : i < L.length) : L.getD i [] ∈ L := by
  rw [List.getD_eq_getElem?_getD, List.getElem?_eq_getElem hi]; exact List.getElem_mem hi
end
end Go.Proofs.YtfagcnokdnanpaaGreat.S
