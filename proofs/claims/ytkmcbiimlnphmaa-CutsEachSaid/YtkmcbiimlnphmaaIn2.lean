/-
Further inputs.
-/
import Derived.Test.YtkmcbiimlnphmaaS3
namespace Go.Proofs.Ytkmcbiimlnphmaa.S
open Go Go.Am Go.Proofs.Ytkmcbiimlnphmaa.T
set_option linter.unusedVariables false
set_option maxRecDepth 100000

theorem z22 : Try.prog.cellsOf 22 = 1 := by kernel_rfl
theorem z23 : Try.prog.cellsOf 23 = 1 := by kernel_rfl
theorem z25 : Try.prog.cellsOf 25 = 2 := by kernel_rfl
theorem z56 : Try.prog.cellsOf 56 = 4 := by kernel_rfl

theorem wfSold {d : Nat} {c : List AV} (h : WfC Try.prog (d + 3) 25 c) : ∃ (l m : List Int) (v w : AV), c = [v, w] ∧ IsSl 1 intL l v ∧ IsSl 1 intL m w := by
  obtain ⟨hl, hf⟩ := wf_struct Try.underlying25 h
  rw [z25] at hl
  match c, hl with
  | [x, y], _ =>
    have h0 : WfC Try.prog (d + 2) 23 (([x, y].drop 0).take (Try.prog.cellsOf 23)) := hf 0 _ rfl
    have h1 : WfC Try.prog (d + 2) 23 (([x, y].drop 1).take (Try.prog.cellsOf 23)) := hf 1 _ rfl
    rw [z23] at h0 h1
    obtain ⟨l, v, e, iv⟩ := wfNums (show WfC Try.prog (d + 2) 23 [x] from h0)
    obtain ⟨m, w, e2, iw⟩ := wfNums (show WfC Try.prog (d + 2) 23 [y] from h1)
    simp only [List.cons.injEq, and_true] at e e2
    subst e; subst e2
    exact ⟨l, m, x, y, rfl, iv, iw⟩
theorem wfClear {d : Nat} {c : List AV} (h : WfC Try.prog (d + 3) 56 c) : ∃ a b x y : Int, c = [I a, I b, I x, I y] := by
  obtain ⟨hl, hf⟩ := wf_struct Try.underlying56 h
  rw [z56] at hl
  match c, hl with
  | [x, y, z, u], _ =>
    have h0 : WfC Try.prog (d + 2) 3 (([x, y, z, u].drop 0).take (Try.prog.cellsOf 3)) := hf 0 _ rfl
    have h1 : WfC Try.prog (d + 2) 3 (([x, y, z, u].drop 1).take (Try.prog.cellsOf 3)) := hf 1 _ rfl
    have h2 : WfC Try.prog (d + 2) 33 (([x, y, z, u].drop 2).take (Try.prog.cellsOf 33)) := hf 2 _ rfl
    rw [z3] at h0 h1
    rw [z33] at h2
    obtain ⟨i, rfl, _⟩ := wfI (show WfC Try.prog (d + 1 + 1) 3 [x] from h0)
    obtain ⟨j, rfl, _⟩ := wfI (show WfC Try.prog (d + 1 + 1) 3 [y] from h1)
    obtain ⟨a, b, e, _⟩ := wfSpn (show WfC Try.prog (d + 2) 33 [z, u] from h2)
    simp only [List.cons.injEq, and_true] at e
    obtain ⟨rfl, rfl⟩ := e
    exact ⟨i, j, a, b, rfl⟩
def twoW : Value := .agg #[.slice none 0 0, .slice none 0 0]
def fourW : Value := .agg #[.int .i64 0, .int .i64 0, .int .i64 0, .int .i64 0]
end Go.Proofs.Ytkmcbiimlnphmaa.S
