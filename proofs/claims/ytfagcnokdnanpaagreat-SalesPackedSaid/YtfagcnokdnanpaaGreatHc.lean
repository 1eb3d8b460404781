/-
The specification's packings (for SalesRepack, SalesPacked).
-/
import Derived.Test.YtfagcnokdnanpaaGreatGd
namespace Go.Proofs.YtfagcnokdnanpaaGreat.S
open Go Go.Am Go.Proofs.YtfagcnokdnanpaaGreat.T
set_option maxRecDepth 100000
set_option linter.unusedSimpArgs false
set_option linter.unusedVariables false
def pkL (ok : List Int → Bool) (n : Nat) : Nat → List Int → List (List Int)
  | 0, F => if ok F then [F] else []
  | d + 1, F => (List.range n).flatMap fun (b : Nat) => pkL ok n d (F ++ [(b : Int)])
theorem pow46_le {n d : Nat} (hn : n ≤ 4) (hd : d ≤ 6) : n ^ d ≤ 4096 := by
  have h1 := Nat.pow_le_pow_left hn d
  have h2 := Nat.pow_le_pow_right (n := 4) (by omega) hd
  have : 4 ^ 6 = 4096 := by decide
  omega
section
variable {f : Fs} {k p b pv bv : AV} {w : Nat → AV}
end
end Go.Proofs.YtfagcnokdnanpaaGreat.S
