/-
The inputs of the law through the layers 7 and 8, as the abstract machine has them.
-/
import Derived.Test.YtaffjmjahenoaaaRc
import Derived.Test.YtaffjmjahenoaaaAmZ
namespace Go.Proofs.Ytaffjmjahenoaaa.A
open Go Go.Am Go.Proofs.Ytaffjmjahenoaaa.T
set_option linter.unusedVariables false
set_option maxRecDepth 100000

theorem z3 : Try.prog.cellsOf 3 = 1 := by kernel_rfl
theorem z23 : Try.prog.cellsOf 23 = 1 := by kernel_rfl
theorem z24 : Try.prog.cellsOf 24 = 1 := by kernel_rfl
theorem z25 : Try.prog.cellsOf 25 = 1 := by kernel_rfl
theorem z27 : Try.prog.cellsOf 27 = 4 := by kernel_rfl
theorem z49 : Try.prog.cellsOf 49 = 2 := by kernel_rfl
theorem z47 : Try.prog.cellsOf 47 = 2 := by kernel_rfl
theorem wfIc {d : Nat} {c : List AV} (h : WfC Try.prog (d + 1) 3 c) : ∃ i, c = [I i] ∧ True := by
  obtain ⟨i, e, hw⟩ := wf_int Try.underlying3 h
  exact ⟨i, e, trivial⟩
theorem wfI {d : Nat} {a : AV} (h : WfC Try.prog (d + 1) 3 [a]) : ∃ i, a = I i ∧ True := by
  obtain ⟨i, e, _⟩ := wfIc h
  simp only [List.cons.injEq, and_true] at e
  exact ⟨i, e, trivial⟩
theorem wfKd {d : Nat} {c : List AV} (h : WfC Try.prog (d + 2) 47 c) : ∃ s : Kd, c = s.e ∧ True := by
  obtain ⟨hl, hf⟩ := wf_struct Try.underlying47 h
  rw [z47] at hl
  match c, hl with
  | [x, y], _ =>
    have h0 : WfC Try.prog (d + 1) 3 (([x, y].drop 0).take (Try.prog.cellsOf 3)) := hf 0 _ rfl
    have h1 : WfC Try.prog (d + 1) 3 (([x, y].drop 1).take (Try.prog.cellsOf 3)) := hf 1 _ rfl
    rw [z3] at h0 h1
    obtain ⟨i, rfl, _⟩ := wfI (show WfC Try.prog (d + 1) 3 [x] from h0)
    obtain ⟨j, rfl, _⟩ := wfI (show WfC Try.prog (d + 1) 3 [y] from h1)
    exact ⟨⟨i, j⟩, rfl, trivial⟩
theorem wfPr {d : Nat} {c : List AV} (h : WfC Try.prog (d + 2) 49 c) : ∃ s : Pr, c = s.e ∧ True := by
  obtain ⟨hl, hf⟩ := wf_struct Try.underlying49 h
  rw [z49] at hl
  match c, hl with
  | [x, y], _ =>
    have h0 : WfC Try.prog (d + 1) 3 (([x, y].drop 0).take (Try.prog.cellsOf 3)) := hf 0 _ rfl
    have h1 : WfC Try.prog (d + 1) 3 (([x, y].drop 1).take (Try.prog.cellsOf 3)) := hf 1 _ rfl
    rw [z3] at h0 h1
    obtain ⟨i, rfl, _⟩ := wfI (show WfC Try.prog (d + 1) 3 [x] from h0)
    obtain ⟨j, rfl, _⟩ := wfI (show WfC Try.prog (d + 1) 3 [y] from h1)
    exact ⟨⟨i, j⟩, rfl, trivial⟩
theorem wfNums {d : Nat} {c : List AV} (h : WfC Try.prog (d + 2) 25 c) : ∃ (l : List Int) (v : AV), c = [v] ∧ IsSl 1 intL l v := by
  obtain ⟨l, v, e, iv, _⟩ := wf_sl (d := d + 1) (enc := intL) (p := fun _ => True) Try.underlying25 z3 (fun c hc => wfIc hc) h
  exact ⟨l, v, e, iv⟩
theorem wfHouse {d : Nat} {c : List AV} (h : WfC Try.prog (d + 4) 27 c) : ∃ (s : Hs) (k p b : AV), AV.agg c = hsV s.fl k p b ∧ HsIn s k p b := by
  obtain ⟨hl, hf⟩ := wf_struct Try.underlying27 h
  rw [z27] at hl
  match c, hl with
  | [x, y, z, u], _ =>
    have h0 : WfC Try.prog (d + 3) 23 (([x, y, z, u].drop 0).take (Try.prog.cellsOf 23)) := hf 0 _ rfl
    have h1 : WfC Try.prog (d + 3) 3 (([x, y, z, u].drop 1).take (Try.prog.cellsOf 3)) := hf 1 _ rfl
    have h2 : WfC Try.prog (d + 3) 24 (([x, y, z, u].drop 2).take (Try.prog.cellsOf 24)) := hf 2 _ rfl
    have h3 : WfC Try.prog (d + 3) 25 (([x, y, z, u].drop 3).take (Try.prog.cellsOf 25)) := hf 3 _ rfl
    rw [z23] at h0
    rw [z3] at h1
    rw [z24] at h2
    rw [z25] at h3
    obtain ⟨lk, k, e0, ik, _⟩ := wf_sl (d := d + 2) (enc := Kd.e) (p := fun _ => True) Try.underlying23 z47 (fun c hc => wfKd hc) (show WfC Try.prog (d + 3) 23 [x] from h0)
    obtain ⟨i, rfl, _⟩ := wfI (show WfC Try.prog (d + 2 + 1) 3 [y] from h1)
    obtain ⟨lp, p, e2, ip, _⟩ := wf_sl (d := d + 2) (enc := Pr.e) (p := fun _ => True) Try.underlying24 z49 (fun c hc => wfPr hc) (show WfC Try.prog (d + 3) 24 [z] from h2)
    obtain ⟨lb, b, e3, ib⟩ := wfNums (d := d + 1) (show WfC Try.prog (d + 3) 25 [u] from h3)
    simp only [List.cons.injEq, and_true] at e0 e2 e3
    subst e0; subst e2; subst e3
    exact ⟨⟨lk, i, lp, lb⟩, x, z, u, rfl, ⟨ik, ip, ib⟩⟩
def houseW : Value := .agg #[.slice none 0 0, .int .i64 0, .slice none 0 0, .slice none 0 0]
end Go.Proofs.Ytaffjmjahenoaaa.A
namespace Go.Proofs.Ytaffjmjahenoaaa.S
open Go Go.Am Go.Proofs.Ytaffjmjahenoaaa.T
set_option linter.unusedVariables false
set_option maxRecDepth 100000

theorem z3 : Try.prog.cellsOf 3 = 1 := by kernel_rfl
theorem z22 : Try.prog.cellsOf 22 = 1 := by kernel_rfl
theorem z35 : Try.prog.cellsOf 35 = 2 := by kernel_rfl
theorem z42 : Try.prog.cellsOf 42 = 6 := by kernel_rfl
theorem wfIc {d : Nat} {c : List AV} (h : WfC Try.prog (d + 1) 3 c) : ∃ i, c = [I i] ∧ True := by
  obtain ⟨i, e, hw⟩ := wf_int Try.underlying3 h
  exact ⟨i, e, trivial⟩
theorem wfI {d : Nat} {a : AV} (h : WfC Try.prog (d + 1) 3 [a]) : ∃ i, a = I i ∧ True := by
  obtain ⟨i, e, _⟩ := wfIc h
  simp only [List.cons.injEq, and_true] at e
  exact ⟨i, e, trivial⟩
theorem wfSpn {d : Nat} {c : List AV} (h : WfC Try.prog (d + 2) 35 c) : ∃ x y, c = [I x, I y] ∧ True := by
  obtain ⟨hl, hf⟩ := wf_struct Try.underlying35 h
  rw [z35] at hl
  match c, hl with
  | [x, y], _ =>
    have h0 : WfC Try.prog (d + 1) 3 (([x, y].drop 0).take (Try.prog.cellsOf 3)) := hf 0 _ rfl
    have h1 : WfC Try.prog (d + 1) 3 (([x, y].drop 1).take (Try.prog.cellsOf 3)) := hf 1 _ rfl
    rw [z3] at h0 h1
    obtain ⟨i, rfl, _⟩ := wfI (show WfC Try.prog (d + 1) 3 [x] from h0)
    obtain ⟨j, rfl, _⟩ := wfI (show WfC Try.prog (d + 1) 3 [y] from h1)
    exact ⟨i, j, rfl, trivial⟩
theorem wfPt {d : Nat} {c : List AV} (h : WfC Try.prog (d + 3) 42 c) : ∃ s : Pt, c = s.e ∧ True := by
  obtain ⟨hl, hf⟩ := wf_struct Try.underlying42 h
  rw [z42] at hl
  match c, hl with
  | [x, y, z, u, v, w], _ =>
    have h0 : WfC Try.prog (d + 2) 3 (([x, y, z, u, v, w].drop 0).take (Try.prog.cellsOf 3)) := hf 0 _ rfl
    have h1 : WfC Try.prog (d + 2) 35 (([x, y, z, u, v, w].drop 1).take (Try.prog.cellsOf 35)) := hf 1 _ rfl
    have h2 : WfC Try.prog (d + 2) 35 (([x, y, z, u, v, w].drop 3).take (Try.prog.cellsOf 35)) := hf 2 _ rfl
    have h3 : WfC Try.prog (d + 2) 3 (([x, y, z, u, v, w].drop 5).take (Try.prog.cellsOf 3)) := hf 3 _ rfl
    rw [z3] at h0 h3
    rw [z35] at h1 h2
    obtain ⟨i, rfl, _⟩ := wfI (show WfC Try.prog (d + 1 + 1) 3 [x] from h0)
    obtain ⟨a, b, e1, _⟩ := wfSpn (show WfC Try.prog (d + 2) 35 [y, z] from h1)
    obtain ⟨a', b', e2, _⟩ := wfSpn (show WfC Try.prog (d + 2) 35 [u, v] from h2)
    obtain ⟨j, rfl, _⟩ := wfI (show WfC Try.prog (d + 1 + 1) 3 [w] from h3)
    simp only [List.cons.injEq, and_true] at e1 e2
    obtain ⟨rfl, rfl⟩ := e1
    obtain ⟨rfl, rfl⟩ := e2
    exact ⟨⟨i, ⟨a, b⟩, ⟨a', b'⟩, j⟩, rfl, trivial⟩
theorem wfTab {d : Nat} {c : List AV} (h : WfC Try.prog (d + 4) 22 c) : ∃ (l : List Pt) (v : AV), c = [v] ∧ IsSl 6 Pt.e l v := by
  obtain ⟨l, v, e, iv, _⟩ := wf_sl (d := d + 3) (enc := Pt.e) (p := fun _ => True) Try.underlying22 z42 (fun c hc => wfPt hc) h
  exact ⟨l, v, e, iv⟩
theorem own : ownKnob Try.prog.godebug = none := by kernel_rfl
theorem laid : laidOutB Try.prog = true := by kernel_rfl
end Go.Proofs.Ytaffjmjahenoaaa.S
