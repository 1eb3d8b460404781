/-
The inputs of the law through the layers 5 and 7, as the abstract machine has them.
-/
import Derived.Test.YtokhneffambgmaaGb
import Derived.Test.YtokhneffambgmaaAmZ
namespace Go.Proofs.Ytokhneffambgmaa.A
open Go Go.Am Go.Proofs.Ytokhneffambgmaa.T
set_option linter.unusedVariables false
set_option maxRecDepth 100000

theorem z3 : Try.prog.cellsOf 3 = 1 := by kernel_rfl
theorem z24 : Try.prog.cellsOf 24 = 2 := by kernel_rfl
theorem z25 : Try.prog.cellsOf 25 = 1 := by kernel_rfl
theorem z26 : Try.prog.cellsOf 26 = 1 := by kernel_rfl
theorem z28 : Try.prog.cellsOf 28 = 4 := by kernel_rfl
theorem z29 : Try.prog.cellsOf 29 = 1 := by kernel_rfl
theorem z53 : Try.prog.cellsOf 53 = 2 := by kernel_rfl
theorem wfIc {d : Nat} {c : List AV} (h : WfC Try.prog (d + 1) 3 c) : ∃ i, c = [I i] ∧ True := by
  obtain ⟨i, e, hw⟩ := wf_int Try.underlying3 h
  exact ⟨i, e, trivial⟩
theorem wfI {d : Nat} {a : AV} (h : WfC Try.prog (d + 1) 3 [a]) : ∃ i, a = I i ∧ True := by
  obtain ⟨i, e, _⟩ := wfIc h
  simp only [List.cons.injEq, and_true] at e
  exact ⟨i, e, trivial⟩
theorem wfSpn {d : Nat} {c : List AV} (h : WfC Try.prog (d + 2) 24 c) : ∃ s : Spn, c = s.e ∧ True := by
  obtain ⟨hl, hf⟩ := wf_struct Try.underlying24 h
  rw [z24] at hl
  match c, hl with
  | [x, y], _ =>
    have h0 : WfC Try.prog (d + 1) 3 (([x, y].drop 0).take (Try.prog.cellsOf 3)) := hf 0 _ rfl
    have h1 : WfC Try.prog (d + 1) 3 (([x, y].drop 1).take (Try.prog.cellsOf 3)) := hf 1 _ rfl
    rw [z3] at h0 h1
    obtain ⟨i, rfl, _⟩ := wfI (show WfC Try.prog (d + 1) 3 [x] from h0)
    obtain ⟨j, rfl, _⟩ := wfI (show WfC Try.prog (d + 1) 3 [y] from h1)
    exact ⟨⟨i, j⟩, rfl, trivial⟩
theorem wfBt {d : Nat} {c : List AV} (h : WfC Try.prog (d + 2) 53 c) : ∃ s : Bt, c = s.e ∧ True := by
  obtain ⟨hl, hf⟩ := wf_struct Try.underlying53 h
  rw [z53] at hl
  match c, hl with
  | [x, y], _ =>
    have h0 : WfC Try.prog (d + 1) 3 (([x, y].drop 0).take (Try.prog.cellsOf 3)) := hf 0 _ rfl
    have h1 : WfC Try.prog (d + 1) 3 (([x, y].drop 1).take (Try.prog.cellsOf 3)) := hf 1 _ rfl
    rw [z3] at h0 h1
    obtain ⟨i, rfl, _⟩ := wfI (show WfC Try.prog (d + 1) 3 [x] from h0)
    obtain ⟨j, rfl, _⟩ := wfI (show WfC Try.prog (d + 1) 3 [y] from h1)
    exact ⟨⟨i, j⟩, rfl, trivial⟩
theorem wfNums {d : Nat} {c : List AV} (h : WfC Try.prog (d + 2) 29 c) : ∃ (l : List Int) (v : AV), c = [v] ∧ IsSl 1 intL l v := by
  obtain ⟨l, v, e, iv, _⟩ := wf_sl (d := d + 1) (enc := intL) (p := fun _ => True) Try.underlying29 z3 (fun c hc => wfIc hc) h
  exact ⟨l, v, e, iv⟩
theorem wfSea {d : Nat} {c : List AV} (h : WfC Try.prog (d + 4) 28 c) : ∃ (s : Sea) (p b : AV), AV.agg c = seaV s p b ∧ SeaIn s p b := by
  obtain ⟨hl, hf⟩ := wf_struct Try.underlying28 h
  rw [z28] at hl
  match c, hl with
  | [x, y, z, u], _ =>
    have h0 : WfC Try.prog (d + 3) 24 (([x, y, z, u].drop 0).take (Try.prog.cellsOf 24)) := hf 0 _ rfl
    have h1 : WfC Try.prog (d + 3) 25 (([x, y, z, u].drop 2).take (Try.prog.cellsOf 25)) := hf 1 _ rfl
    have h2 : WfC Try.prog (d + 3) 26 (([x, y, z, u].drop 3).take (Try.prog.cellsOf 26)) := hf 2 _ rfl
    rw [z24] at h0
    rw [z25] at h1
    rw [z26] at h2
    obtain ⟨w, e, _⟩ := wfSpn (d := d + 1) (show WfC Try.prog (d + 3) 24 [x, y] from h0)
    simp only [Spn.e, List.cons.injEq, and_true] at e
    obtain ⟨rfl, rfl⟩ := e
    obtain ⟨lo, o, e2, io, _⟩ := wf_sl (d := d + 2) (enc := Spn.e) (p := fun _ => True) Try.underlying25 z24 (fun c hc => wfSpn hc) (show WfC Try.prog (d + 3) 25 [z] from h1)
    obtain ⟨lw, v, e3, iw, _⟩ := wf_sl (d := d + 2) (enc := Bt.e) (p := fun _ => True) Try.underlying26 z53 (fun c hc => wfBt hc) (show WfC Try.prog (d + 3) 26 [u] from h2)
    simp only [List.cons.injEq, and_true] at e2 e3
    subst e2; subst e3
    exact ⟨⟨w, lo, lw⟩, z, u, rfl, ⟨io, iw⟩⟩
def seaW : Value := .agg #[.int .i64 0, .int .i64 0, .slice none 0 0, .slice none 0 0]
end Go.Proofs.Ytokhneffambgmaa.A
namespace Go.Proofs.Ytokhneffambgmaa.S
open Go Go.Am Go.Proofs.Ytokhneffambgmaa.T
set_option linter.unusedVariables false
set_option maxRecDepth 100000

theorem z3 : Try.prog.cellsOf 3 = 1 := by kernel_rfl
theorem z22 : Try.prog.cellsOf 22 = 1 := by kernel_rfl
theorem z24 : Try.prog.cellsOf 24 = 2 := by kernel_rfl
theorem z41 : Try.prog.cellsOf 41 = 6 := by kernel_rfl
theorem wfIc {d : Nat} {c : List AV} (h : WfC Try.prog (d + 1) 3 c) : ∃ i, c = [I i] ∧ True := by
  obtain ⟨i, e, hw⟩ := wf_int Try.underlying3 h
  exact ⟨i, e, trivial⟩
theorem wfI {d : Nat} {a : AV} (h : WfC Try.prog (d + 1) 3 [a]) : ∃ i, a = I i ∧ True := by
  obtain ⟨i, e, _⟩ := wfIc h
  simp only [List.cons.injEq, and_true] at e
  exact ⟨i, e, trivial⟩
theorem wfSpn {d : Nat} {c : List AV} (h : WfC Try.prog (d + 2) 24 c) : ∃ x y, c = [I x, I y] ∧ True := by
  obtain ⟨hl, hf⟩ := wf_struct Try.underlying24 h
  rw [z24] at hl
  match c, hl with
  | [x, y], _ =>
    have h0 : WfC Try.prog (d + 1) 3 (([x, y].drop 0).take (Try.prog.cellsOf 3)) := hf 0 _ rfl
    have h1 : WfC Try.prog (d + 1) 3 (([x, y].drop 1).take (Try.prog.cellsOf 3)) := hf 1 _ rfl
    rw [z3] at h0 h1
    obtain ⟨i, rfl, _⟩ := wfI (show WfC Try.prog (d + 1) 3 [x] from h0)
    obtain ⟨j, rfl, _⟩ := wfI (show WfC Try.prog (d + 1) 3 [y] from h1)
    exact ⟨i, j, rfl, trivial⟩
theorem wfPt {d : Nat} {c : List AV} (h : WfC Try.prog (d + 3) 41 c) : ∃ s : Pt, c = s.e ∧ True := by
  obtain ⟨hl, hf⟩ := wf_struct Try.underlying41 h
  rw [z41] at hl
  match c, hl with
  | [x, y, z, u, v, w], _ =>
    have h0 : WfC Try.prog (d + 2) 3 (([x, y, z, u, v, w].drop 0).take (Try.prog.cellsOf 3)) := hf 0 _ rfl
    have h1 : WfC Try.prog (d + 2) 24 (([x, y, z, u, v, w].drop 1).take (Try.prog.cellsOf 24)) := hf 1 _ rfl
    have h2 : WfC Try.prog (d + 2) 24 (([x, y, z, u, v, w].drop 3).take (Try.prog.cellsOf 24)) := hf 2 _ rfl
    have h3 : WfC Try.prog (d + 2) 3 (([x, y, z, u, v, w].drop 5).take (Try.prog.cellsOf 3)) := hf 3 _ rfl
    rw [z3] at h0 h3
    rw [z24] at h1 h2
    obtain ⟨i, rfl, _⟩ := wfI (show WfC Try.prog (d + 1 + 1) 3 [x] from h0)
    obtain ⟨a, b, e1, _⟩ := wfSpn (show WfC Try.prog (d + 2) 24 [y, z] from h1)
    obtain ⟨a', b', e2, _⟩ := wfSpn (show WfC Try.prog (d + 2) 24 [u, v] from h2)
    obtain ⟨j, rfl, _⟩ := wfI (show WfC Try.prog (d + 1 + 1) 3 [w] from h3)
    simp only [List.cons.injEq, and_true] at e1 e2
    obtain ⟨rfl, rfl⟩ := e1
    obtain ⟨rfl, rfl⟩ := e2
    exact ⟨⟨i, ⟨a, b⟩, ⟨a', b'⟩, j⟩, rfl, trivial⟩
theorem wfTab {d : Nat} {c : List AV} (h : WfC Try.prog (d + 4) 22 c) : ∃ (l : List Pt) (v : AV), c = [v] ∧ IsSl 6 Pt.e l v := by
  obtain ⟨l, v, e, iv, _⟩ := wf_sl (d := d + 3) (enc := Pt.e) (p := fun _ => True) Try.underlying22 z41 (fun c hc => wfPt hc) h
  exact ⟨l, v, e, iv⟩
theorem zH31 : Try.prog.cellsOf 31 = 2 := by kernel_rfl
theorem zH29 : Try.prog.cellsOf 29 = 1 := by kernel_rfl
theorem wfHauled {d : Nat} {c : List AV} (h : WfC Try.prog (d + 3) 31 c) : ∃ (l m : List Int) (v w : AV), AV.agg c = .agg [v, w] ∧ IsSl 1 A.intL l v ∧ IsSl 1 A.intL m w := by
  obtain ⟨hl, hf⟩ := wf_struct Try.underlying31 h
  rw [zH31] at hl
  match c, hl with
  | [x, y], _ =>
    have h0 : WfC Try.prog (d + 2) 29 (([x, y].drop 0).take (Try.prog.cellsOf 29)) := hf 0 _ rfl
    have h1 : WfC Try.prog (d + 2) 29 (([x, y].drop 1).take (Try.prog.cellsOf 29)) := hf 1 _ rfl
    rw [zH29] at h0 h1
    obtain ⟨l, v, e, iv⟩ := A.wfNums (d := d) (show WfC Try.prog (d + 2) 29 [x] from h0)
    obtain ⟨m, w, e2, iw⟩ := A.wfNums (d := d) (show WfC Try.prog (d + 2) 29 [y] from h1)
    simp only [List.cons.injEq, and_true] at e e2
    subst e; subst e2
    exact ⟨l, m, x, y, rfl, iv, iw⟩
def twoW : Value := .agg #[.slice none 0 0, .slice none 0 0]
theorem own : ownKnob Try.prog.godebug = none := by kernel_rfl
theorem laid : laidOutB Try.prog = true := by kernel_rfl
end Go.Proofs.Ytokhneffambgmaa.S
