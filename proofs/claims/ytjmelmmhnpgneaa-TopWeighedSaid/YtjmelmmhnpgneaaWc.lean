/-
The inputs of the law through the layers 1 and 5, as the abstract machine has them.
-/
import Derived.Test.YtjmelmmhnpgneaaWb
namespace Go.Proofs.Ytjmelmmhnpgneaa.A
open Go Go.Am Go.Proofs.Ytjmelmmhnpgneaa.T
set_option linter.unusedVariables false
set_option maxRecDepth 100000

theorem z3 : Try.prog.cellsOf 3 = 1 := by kernel_rfl
theorem z27 : Try.prog.cellsOf 27 = 2 := by kernel_rfl
theorem z28 : Try.prog.cellsOf 28 = 1 := by kernel_rfl
theorem z29 : Try.prog.cellsOf 29 = 1 := by kernel_rfl
theorem z31 : Try.prog.cellsOf 31 = 4 := by kernel_rfl
theorem z32 : Try.prog.cellsOf 32 = 1 := by kernel_rfl
theorem z55 : Try.prog.cellsOf 55 = 2 := by kernel_rfl
theorem wfIc {d : Nat} {c : List AV} (h : WfC Try.prog (d + 1) 3 c) : ∃ i, c = [I i] ∧ True := by
  obtain ⟨i, e, hw⟩ := wf_int Try.underlying3 h
  exact ⟨i, e, trivial⟩
theorem wfI {d : Nat} {a : AV} (h : WfC Try.prog (d + 1) 3 [a]) : ∃ i, a = I i ∧ True := by
  obtain ⟨i, e, _⟩ := wfIc h
  simp only [List.cons.injEq, and_true] at e
  exact ⟨i, e, trivial⟩
theorem wfSpn {d : Nat} {c : List AV} (h : WfC Try.prog (d + 2) 27 c) : ∃ s : Spn, c = s.e ∧ True := by
  obtain ⟨hl, hf⟩ := wf_struct Try.underlying27 h
  rw [z27] at hl
  match c, hl with
  | [x, y], _ =>
    have h0 : WfC Try.prog (d + 1) 3 (([x, y].drop 0).take (Try.prog.cellsOf 3)) := hf 0 _ rfl
    have h1 : WfC Try.prog (d + 1) 3 (([x, y].drop 1).take (Try.prog.cellsOf 3)) := hf 1 _ rfl
    rw [z3] at h0 h1
    obtain ⟨i, rfl, _⟩ := wfI (show WfC Try.prog (d + 1) 3 [x] from h0)
    obtain ⟨j, rfl, _⟩ := wfI (show WfC Try.prog (d + 1) 3 [y] from h1)
    exact ⟨⟨i, j⟩, rfl, trivial⟩
theorem wfBt {d : Nat} {c : List AV} (h : WfC Try.prog (d + 2) 55 c) : ∃ s : Bt, c = s.e ∧ True := by
  obtain ⟨hl, hf⟩ := wf_struct Try.underlying55 h
  rw [z55] at hl
  match c, hl with
  | [x, y], _ =>
    have h0 : WfC Try.prog (d + 1) 3 (([x, y].drop 0).take (Try.prog.cellsOf 3)) := hf 0 _ rfl
    have h1 : WfC Try.prog (d + 1) 3 (([x, y].drop 1).take (Try.prog.cellsOf 3)) := hf 1 _ rfl
    rw [z3] at h0 h1
    obtain ⟨i, rfl, _⟩ := wfI (show WfC Try.prog (d + 1) 3 [x] from h0)
    obtain ⟨j, rfl, _⟩ := wfI (show WfC Try.prog (d + 1) 3 [y] from h1)
    exact ⟨⟨i, j⟩, rfl, trivial⟩
theorem wfNums {d : Nat} {c : List AV} (h : WfC Try.prog (d + 2) 32 c) : ∃ (l : List Int) (v : AV), c = [v] ∧ IsSl 1 intL l v := by
  obtain ⟨l, v, e, iv, _⟩ := wf_sl (d := d + 1) (enc := intL) (p := fun _ => True) Try.underlying32 z3 (fun c hc => wfIc hc) h
  exact ⟨l, v, e, iv⟩
theorem wfSea {d : Nat} {c : List AV} (h : WfC Try.prog (d + 4) 31 c) : ∃ (s : Sea) (p b : AV), AV.agg c = seaV s p b ∧ SeaIn s p b := by
  obtain ⟨hl, hf⟩ := wf_struct Try.underlying31 h
  rw [z31] at hl
  match c, hl with
  | [x, y, z, u], _ =>
    have h0 : WfC Try.prog (d + 3) 27 (([x, y, z, u].drop 0).take (Try.prog.cellsOf 27)) := hf 0 _ rfl
    have h1 : WfC Try.prog (d + 3) 28 (([x, y, z, u].drop 2).take (Try.prog.cellsOf 28)) := hf 1 _ rfl
    have h2 : WfC Try.prog (d + 3) 29 (([x, y, z, u].drop 3).take (Try.prog.cellsOf 29)) := hf 2 _ rfl
    rw [z27] at h0
    rw [z28] at h1
    rw [z29] at h2
    obtain ⟨w, e, _⟩ := wfSpn (d := d + 1) (show WfC Try.prog (d + 3) 27 [x, y] from h0)
    simp only [Spn.e, List.cons.injEq, and_true] at e
    obtain ⟨rfl, rfl⟩ := e
    obtain ⟨lo, o, e2, io, _⟩ := wf_sl (d := d + 2) (enc := Spn.e) (p := fun _ => True) Try.underlying28 z27 (fun c hc => wfSpn hc) (show WfC Try.prog (d + 3) 28 [z] from h1)
    obtain ⟨lw, v, e3, iw, _⟩ := wf_sl (d := d + 2) (enc := Bt.e) (p := fun _ => True) Try.underlying29 z55 (fun c hc => wfBt hc) (show WfC Try.prog (d + 3) 29 [u] from h2)
    simp only [List.cons.injEq, and_true] at e2 e3
    subst e2; subst e3
    exact ⟨⟨w, lo, lw⟩, z, u, rfl, ⟨io, iw⟩⟩
def seaW : Value := .agg #[.int .i64 0, .int .i64 0, .slice none 0 0, .slice none 0 0]
end Go.Proofs.Ytjmelmmhnpgneaa.A
namespace Go.Proofs.Ytjmelmmhnpgneaa.S
open Go Go.Am Go.Proofs.Ytjmelmmhnpgneaa.T
set_option linter.unusedVariables false
set_option maxRecDepth 100000

theorem z3 : Try.prog.cellsOf 3 = 1 := by kernel_rfl
theorem z22 : Try.prog.cellsOf 22 = 1 := by kernel_rfl
theorem z23 : Try.prog.cellsOf 23 = 1 := by kernel_rfl
theorem z25 : Try.prog.cellsOf 25 = 4 := by kernel_rfl
theorem z34 : Try.prog.cellsOf 34 = 4 := by kernel_rfl
theorem z32 : Try.prog.cellsOf 32 = 1 := by kernel_rfl
theorem wfIc {d : Nat} {c : List AV} (h : WfC Try.prog (d + 1) 3 c) : ∃ i, c = [I i] ∧ True := by
  obtain ⟨i, e, hw⟩ := wf_int Try.underlying3 h
  exact ⟨i, e, trivial⟩
theorem wfI {d : Nat} {a : AV} (h : WfC Try.prog (d + 1) 3 [a]) : ∃ i, a = I i ∧ True := by
  obtain ⟨i, e, _⟩ := wfIc h
  simp only [List.cons.injEq, and_true] at e
  exact ⟨i, e, trivial⟩
theorem wfWd {d : Nat} {c : List AV} (h : WfC Try.prog (d + 2) 34 c) : ∃ s : Wd, c = s.e ∧ True := by
  obtain ⟨hl, hf⟩ := wf_struct Try.underlying34 h
  rw [z34] at hl
  match c, hl with
  | [x, y, z, u], _ =>
    have h0 : WfC Try.prog (d + 1) 3 (([x, y, z, u].drop 0).take (Try.prog.cellsOf 3)) := hf 0 _ rfl
    have h1 : WfC Try.prog (d + 1) 3 (([x, y, z, u].drop 1).take (Try.prog.cellsOf 3)) := hf 1 _ rfl
    have h2 : WfC Try.prog (d + 1) 3 (([x, y, z, u].drop 2).take (Try.prog.cellsOf 3)) := hf 2 _ rfl
    have h3 : WfC Try.prog (d + 1) 3 (([x, y, z, u].drop 3).take (Try.prog.cellsOf 3)) := hf 3 _ rfl
    rw [z3] at h0 h1 h2 h3
    obtain ⟨i, rfl, _⟩ := wfI (show WfC Try.prog (d + 1) 3 [x] from h0)
    obtain ⟨j, rfl, _⟩ := wfI (show WfC Try.prog (d + 1) 3 [y] from h1)
    obtain ⟨k, rfl, _⟩ := wfI (show WfC Try.prog (d + 1) 3 [z] from h2)
    obtain ⟨l, rfl, _⟩ := wfI (show WfC Try.prog (d + 1) 3 [u] from h3)
    exact ⟨⟨i, j, k, l⟩, rfl, trivial⟩
theorem wfLs {d : Nat} {c : List AV} (h : WfC Try.prog (d + 2) 32 c) : ∃ s : Ls, c = s.e ∧ True := by
  obtain ⟨l, v, e, iv, _⟩ := wf_sl (d := d + 1) (enc := intL) (p := fun _ => True) Try.underlying32 z3 (fun c hc => by obtain ⟨i, e, _⟩ := wfIc hc; exact ⟨i, e, trivial⟩) h
  subst e
  rcases iv with rfl | ⟨rfl, rfl⟩
  · exact ⟨⟨l, false⟩, rfl, trivial⟩
  · exact ⟨⟨[], true⟩, rfl, trivial⟩
theorem wfNu {d : Nat} {c : List AV} (h : WfC Try.prog (d + 3) 22 c) : ∃ (L : List Ls) (v : AV), c = [v] ∧ IsSl 1 Ls.e L v := by
  obtain ⟨l, v, e, iv, _⟩ := wf_sl (d := d + 2) (enc := Ls.e) (p := fun _ => True) Try.underlying22 z32 (fun c hc => wfLs hc) h
  exact ⟨l, v, e, iv⟩
theorem wfTrap {d : Nat} {c : List AV} (h : WfC Try.prog (d + 4) 25 c) : ∃ (t : Trap) (o w : AV), AV.agg c = trV t o w ∧ TrIn t o w := by
  obtain ⟨hl, hf⟩ := wf_struct Try.underlying25 h
  rw [z25] at hl
  match c, hl with
  | [x, y, z, u], _ =>
    have h0 : WfC Try.prog (d + 3) 3 (([x, y, z, u].drop 0).take (Try.prog.cellsOf 3)) := hf 0 _ rfl
    have h1 : WfC Try.prog (d + 3) 3 (([x, y, z, u].drop 1).take (Try.prog.cellsOf 3)) := hf 1 _ rfl
    have h2 : WfC Try.prog (d + 3) 22 (([x, y, z, u].drop 2).take (Try.prog.cellsOf 22)) := hf 2 _ rfl
    have h3 : WfC Try.prog (d + 3) 23 (([x, y, z, u].drop 3).take (Try.prog.cellsOf 23)) := hf 3 _ rfl
    rw [z3] at h0 h1
    rw [z22] at h2
    rw [z23] at h3
    obtain ⟨i, rfl, _⟩ := wfI (show WfC Try.prog (d + 2 + 1) 3 [x] from h0)
    obtain ⟨j, rfl, _⟩ := wfI (show WfC Try.prog (d + 2 + 1) 3 [y] from h1)
    obtain ⟨lo, o, e2, io⟩ := wfNu (show WfC Try.prog (d + 3) 22 [z] from h2)
    obtain ⟨lw, w, e3, iw, _⟩ := wf_sl (d := d + 2) (enc := Wd.e) (p := fun _ => True) Try.underlying23 z34 (fun c hc => wfWd hc) (show WfC Try.prog (d + 3) 23 [u] from h3)
    simp only [List.cons.injEq, and_true] at e2 e3
    subst e2; subst e3
    exact ⟨⟨i, j, lo, lw⟩, z, u, rfl, ⟨io, iw⟩⟩
theorem z36 : Try.prog.cellsOf 36 = 7 := by kernel_rfl
theorem wfWeighed {d : Nat} {c : List AV} (h : WfC Try.prog (d + 4) 36 c) : ∃ (L : List Ls) (v : AV) (x : Int) (l : List Int) (u : AV) (y : Wd), AV.agg c = .agg [v, I x, u, I y.time, I y.ch, I y.lo, I y.hi] ∧ IsSl 1 Ls.e L v ∧ IsSl 1 A.intL l u := by
  obtain ⟨hl, hf⟩ := wf_struct Try.underlying36 h
  rw [z36] at hl
  match c, hl with
  | [x0, x1, x2, x3, x4, x5, x6], _ =>
    have h0 : WfC Try.prog (d + 3) 22 (([x0, x1, x2, x3, x4, x5, x6].drop 0).take (Try.prog.cellsOf 22)) := hf 0 _ rfl
    have h1 : WfC Try.prog (d + 3) 3 (([x0, x1, x2, x3, x4, x5, x6].drop 1).take (Try.prog.cellsOf 3)) := hf 1 _ rfl
    have h2 : WfC Try.prog (d + 3) 32 (([x0, x1, x2, x3, x4, x5, x6].drop 2).take (Try.prog.cellsOf 32)) := hf 2 _ rfl
    have h3 : WfC Try.prog (d + 3) 34 (([x0, x1, x2, x3, x4, x5, x6].drop 3).take (Try.prog.cellsOf 34)) := hf 3 _ rfl
    rw [z22] at h0
    rw [z3] at h1
    rw [z32] at h2
    rw [z34] at h3
    obtain ⟨L, v, e0, iv⟩ := wfNu (show WfC Try.prog (d + 3) 22 [x0] from h0)
    obtain ⟨i, rfl, _⟩ := wfI (show WfC Try.prog (d + 2 + 1) 3 [x1] from h1)
    obtain ⟨l, u, e2, iu⟩ := A.wfNums (show WfC Try.prog (d + 1 + 2) 32 [x2] from h2)
    obtain ⟨y, e3, _⟩ := wfWd (d := d + 1) (show WfC Try.prog (d + 3) 34 [x3, x4, x5, x6] from h3)
    simp only [List.cons.injEq, and_true, Wd.e] at e0 e2 e3
    obtain ⟨rfl, rfl, rfl, rfl⟩ := e3
    subst e0; subst e2
    exact ⟨L, x0, i, l, x2, y, rfl, iv, iu⟩
theorem own : ownKnob Try.prog.godebug = none := by kernel_rfl
theorem laid : laidOutB Try.prog = true := by kernel_rfl
def trapW : Value := .agg #[.int .i64 0, .int .i64 0, .slice none 0 0, .slice none 0 0]
def weighedW : Value := .agg #[.slice none 0 0, .int .i64 0, .slice none 0 0, .int .i64 0, .int .i64 0, .int .i64 0, .int .i64 0]
end Go.Proofs.Ytjmelmmhnpgneaa.S
