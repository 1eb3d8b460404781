/-
The truths among the inputs of stage 2.
-/
import Derived.Test.YtpflneddfhifkaaSh
namespace Go.Proofs.Ytpflneddfhifkaa.S
open Go Go.Am Go.Proofs.Ytpflneddfhifkaa.T
set_option linter.unusedVariables false
set_option maxRecDepth 100000
theorem wfTru {d : Nat} {c : List AV} (h : WfC Try.prog (d + 3) 34 c) : ∃ (t : Tru) (v : AV), AV.agg c = .agg [I t.wind, I t.cur, v] ∧ TruIn t v := by
  obtain ⟨hl, hf⟩ := wf_struct Try.underlying34 h
  rw [z34] at hl
  match c, hl with
  | [x, y, z], _ =>
    have h0 : WfC Try.prog (d + 2) 3 (([x, y, z].drop 0).take (Try.prog.cellsOf 3)) := hf 0 _ rfl
    have h1 : WfC Try.prog (d + 2) 3 (([x, y, z].drop 1).take (Try.prog.cellsOf 3)) := hf 1 _ rfl
    have h2 : WfC Try.prog (d + 2) 32 (([x, y, z].drop 2).take (Try.prog.cellsOf 32)) := hf 2 _ rfl
    rw [z3] at h0 h1
    rw [z32] at h2
    obtain ⟨i, rfl, hi⟩ := wfI (show WfC Try.prog (d + 1 + 1) 3 [x] from h0)
    obtain ⟨j, rfl, hj⟩ := wfI (show WfC Try.prog (d + 1 + 1) 3 [y] from h1)
    obtain ⟨l, v, e, iv, _⟩ := wf_sl (d := d + 1) (enc := fun n : Int => [I n]) (p := fun _ => True) Try.underlying32 z3 (fun c hc => by obtain ⟨i, e, _⟩ := wfIc hc; exact ⟨i, e, trivial⟩) (show WfC Try.prog (d + 2) 32 [z] from h2)
    simp only [List.cons.injEq, and_true] at e
    subst e
    exact ⟨⟨i, j, l⟩, z, rfl, ⟨iv⟩⟩
def truW : Value := .agg #[.int .i64 0, .int .i64 0, .slice none 0 0]
end Go.Proofs.Ytpflneddfhifkaa.S
