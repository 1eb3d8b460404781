/-
The law on Lies, False and Blame.
-/
import Derived.Test.YtfknojncfbahpaaGreatWs
import Derived.Test.YtfknojncfbahpaaGreatWt
import Derived.Test.YtfknojncfbahpaaGreatWv
namespace Go.Proofs.YtfknojncfbahpaaGreat.S
open Go Go.Am Go.Proofs.YtfknojncfbahpaaGreat.T
set_option maxRecDepth 100000
set_option linter.unusedSimpArgs false
set_option linter.unusedVariables false
section
variable {b : Bk} {o w s : AV}
theorem cpb_fal {W : List Int} : b.cp.fal W = b.fal W:=by
 unfold Bk.fal
 rw [show b.cp.t.kp (qL W) = (b.t.kp (qL W)).cp from rfl,cpb_solB]
 rfl
theorem cpb_bla : b.cp.bla = b.bla:=by
 unfold Bk.bla
 rw [show b.cp.t.ws = b.t.ws from rfl]
 congr 1
 exact List.filter_congr fun W _ => cpb_fal
theorem bla_ris : ris b.t.ws.length b.bla:=by
 unfold Bk.bla
 cases h : (alls b.t.ws.length).filter b.fal with
 | nil => exact ris_nil
 |
  cons W R =>
  have : W ∈ (alls b.t.ws.length).filter b.fal:=by rw [h]; simp
  exact mem_alls.1 (List.mem_filter.1 this).1
end
end Go.Proofs.YtfknojncfbahpaaGreat.S
