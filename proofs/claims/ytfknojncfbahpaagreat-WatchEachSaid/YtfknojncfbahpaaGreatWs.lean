/-
The laws on Good, Stories and Least, and on Drunk, Must and Ask.
-/
import Derived.Test.YtfknojncfbahpaaGreatWk
import Derived.Test.YtfknojncfbahpaaGreatS2
namespace Go.Proofs.YtfknojncfbahpaaGreat.S
open Go Go.Am Go.Proofs.YtfknojncfbahpaaGreat.T
set_option maxRecDepth 100000
set_option linter.unusedSimpArgs false
set_option linter.unusedVariables false
section
variable {b : Bk} {o w s : AV}
theorem AnB.len {fit : Bool} {P : List Int × Int → Prop} {l : List Int} {e : Int} {k : Nat} (A : AnB b fit (fun e => (([] : List Int),e)) P (l,e)) (h : b.valid = true → b.sts ≠ [] → ∀ r,P r → r.1.length ≤ k) : l.length ≤ k:=by
 generalize hy : (l,e) = y at A
 cases A with
 | bad h => cases hy; simp
 | arg h hf => cases hy; simp
 | none h hf hn => cases hy; simp
 | ok hv hf hs hp => have:=h hv hs _ hp; rw [← hy] at this; exact this
end
end Go.Proofs.YtfknojncfbahpaaGreat.S
