/-
The inputs of the law through the layers 1 and 2, as the abstract machine has them.
-/
import Derived.Test.YtjgbiclbpgkfeaaTe
import Derived.Test.YtjgbiclbpgkfeaaTc
namespace Go.Proofs.Ytjgbiclbpgkfeaa.A
open Go Go.Am Go.Proofs.Ytjgbiclbpgkfeaa.T
set_option linter.unusedVariables false
set_option maxRecDepth 100000

def i64ok (n : Int) : Prop := -9223372036854775808 ≤ n ∧ n ≤ 9223372036854775807
theorem i64_of {n : Int} (h : (Lit.int .i64 n).wf = true) : i64ok n := by
  simpa [Lit.wf, IntKind.min, IntKind.max, IntKind.signed, IntKind.bits, i64ok] using h
theorem z3 : Try.prog.cellsOf 3 = 1 := by kernel_rfl
theorem z27 : Try.prog.cellsOf 27 = 2 := by kernel_rfl
theorem z28 : Try.prog.cellsOf 28 = 1 := by kernel_rfl
theorem z29 : Try.prog.cellsOf 29 = 1 := by kernel_rfl
theorem z30 : Try.prog.cellsOf 30 = 1 := by kernel_rfl
theorem z32 : Try.prog.cellsOf 32 = 7 := by kernel_rfl
theorem z33 : Try.prog.cellsOf 33 = 1 := by kernel_rfl
theorem z35 : Try.prog.cellsOf 35 = 3 := by kernel_rfl
theorem z60 : Try.prog.cellsOf 60 = 2 := by kernel_rfl
theorem z62 : Try.prog.cellsOf 62 = 5 := by kernel_rfl
theorem wfI {d : Nat} {a : AV} (h : WfC Try.prog (d + 1) 3 [a]) : ∃ i, a = I i ∧ i64ok i := by
  obtain ⟨i, e, hw⟩ := wf_int Try.underlying3 h
  simp only [List.cons.injEq, and_true] at e
  exact ⟨i, e, i64_of hw⟩
theorem wfIc {d : Nat} {c : List AV} (h : WfC Try.prog (d + 1) 3 c) : ∃ i, c = [I i] ∧ i64ok i := by
  obtain ⟨i, e, hw⟩ := wf_int Try.underlying3 h
  exact ⟨i, e, i64_of hw⟩
theorem wfSpn {d : Nat} {c : List AV} (h : WfC Try.prog (d + 2) 27 c) : ∃ s : Spn, c = s.e ∧ i64ok s.lo ∧ i64ok s.hi := by
  obtain ⟨hl, hf⟩ := wf_struct Try.underlying27 h
  rw [z27] at hl
  match c, hl with
  | [x, y], _ =>
    have h0 : WfC Try.prog (d + 1) 3 (([x, y].drop 0).take (Try.prog.cellsOf 3)) := hf 0 _ rfl
    have h1 : WfC Try.prog (d + 1) 3 (([x, y].drop 1).take (Try.prog.cellsOf 3)) := hf 1 _ rfl
    rw [z3] at h0
    rw [z3] at h1
    obtain ⟨i, rfl, hi⟩ := wfI (show WfC Try.prog (d + 1) 3 [x] from h0)
    obtain ⟨j, rfl, hj⟩ := wfI (show WfC Try.prog (d + 1) 3 [y] from h1)
    exact ⟨⟨i, j⟩, rfl, hi, hj⟩
theorem wfAnc {d : Nat} {c : List AV} (h : WfC Try.prog (d + 2) 60 c) : ∃ s : Anc, c = s.e ∧ True := by
  obtain ⟨hl, hf⟩ := wf_struct Try.underlying60 h
  rw [z60] at hl
  match c, hl with
  | [x, y], _ =>
    have h0 : WfC Try.prog (d + 1) 3 (([x, y].drop 0).take (Try.prog.cellsOf 3)) := hf 0 _ rfl
    have h1 : WfC Try.prog (d + 1) 3 (([x, y].drop 1).take (Try.prog.cellsOf 3)) := hf 1 _ rfl
    rw [z3] at h0
    rw [z3] at h1
    obtain ⟨i, rfl, hi⟩ := wfI (show WfC Try.prog (d + 1) 3 [x] from h0)
    obtain ⟨j, rfl, hj⟩ := wfI (show WfC Try.prog (d + 1) 3 [y] from h1)
    exact ⟨⟨i, j⟩, rfl, trivial⟩
theorem wfWal {d : Nat} {c : List AV} (h : WfC Try.prog (d + 2) 62 c) : ∃ s : Wal, c = s.e ∧ True := by
  obtain ⟨hl, hf⟩ := wf_struct Try.underlying62 h
  rw [z62] at hl
  match c, hl with
  | [x, y, z, u, v], _ =>
    have h0 : WfC Try.prog (d + 1) 3 (([x, y, z, u, v].drop 0).take (Try.prog.cellsOf 3)) := hf 0 _ rfl
    have h1 : WfC Try.prog (d + 1) 3 (([x, y, z, u, v].drop 1).take (Try.prog.cellsOf 3)) := hf 1 _ rfl
    have h2 : WfC Try.prog (d + 1) 3 (([x, y, z, u, v].drop 2).take (Try.prog.cellsOf 3)) := hf 2 _ rfl
    have h3 : WfC Try.prog (d + 1) 3 (([x, y, z, u, v].drop 3).take (Try.prog.cellsOf 3)) := hf 3 _ rfl
    have h4 : WfC Try.prog (d + 1) 3 (([x, y, z, u, v].drop 4).take (Try.prog.cellsOf 3)) := hf 4 _ rfl
    rw [z3] at h0
    rw [z3] at h1
    rw [z3] at h2
    rw [z3] at h3
    rw [z3] at h4
    obtain ⟨i, rfl, hi⟩ := wfI (show WfC Try.prog (d + 1) 3 [x] from h0)
    obtain ⟨j, rfl, hj⟩ := wfI (show WfC Try.prog (d + 1) 3 [y] from h1)
    obtain ⟨k, rfl, hk⟩ := wfI (show WfC Try.prog (d + 1) 3 [z] from h2)
    obtain ⟨l, rfl, hl⟩ := wfI (show WfC Try.prog (d + 1) 3 [u] from h3)
    obtain ⟨m, rfl, hm⟩ := wfI (show WfC Try.prog (d + 1) 3 [v] from h4)
    exact ⟨⟨i, j, k, l, m⟩, rfl, trivial⟩
theorem wfNet {d : Nat} {c : List AV} (h : WfC Try.prog (d + 4) 32 c) : ∃ (n : Net) (g a w : AV), AV.agg c = netV n g a w ∧ NetIn n g a w := by
  obtain ⟨hl, hf⟩ := wf_struct Try.underlying32 h
  rw [z32] at hl
  match c, hl with
  | [x0, x1, x2, x3, x4, x5, x6], _ =>
    have h0 : WfC Try.prog (d + 3) 27 (([x0, x1, x2, x3, x4, x5, x6].drop 0).take (Try.prog.cellsOf 27)) := hf 0 _ rfl
    have h1 : WfC Try.prog (d + 3) 27 (([x0, x1, x2, x3, x4, x5, x6].drop 2).take (Try.prog.cellsOf 27)) := hf 1 _ rfl
    have h2 : WfC Try.prog (d + 3) 28 (([x0, x1, x2, x3, x4, x5, x6].drop 4).take (Try.prog.cellsOf 28)) := hf 2 _ rfl
    have h3 : WfC Try.prog (d + 3) 29 (([x0, x1, x2, x3, x4, x5, x6].drop 5).take (Try.prog.cellsOf 29)) := hf 3 _ rfl
    have h4 : WfC Try.prog (d + 3) 30 (([x0, x1, x2, x3, x4, x5, x6].drop 6).take (Try.prog.cellsOf 30)) := hf 4 _ rfl
    rw [z27] at h0
    rw [z27] at h1
    rw [z28] at h2
    rw [z29] at h3
    rw [z30] at h4
    obtain ⟨wi, e0, _⟩ := wfSpn (d := d + 1) (show WfC Try.prog (d + 3) 27 [x0, x1] from h0)
    obtain ⟨cu, e1, _⟩ := wfSpn (d := d + 1) (show WfC Try.prog (d + 3) 27 [x2, x3] from h1)
    obtain ⟨lg, g, e2, ig, _⟩ := wf_sl (d := d + 2) (enc := Spn.e) Try.underlying28 z27 (fun c hc => (wfSpn hc)) (show WfC Try.prog (d + 3) 28 [x4] from h2)
    obtain ⟨la, a, e3, ia, _⟩ := wf_sl (d := d + 2) (enc := Anc.e) Try.underlying29 z60 (fun c hc => (wfAnc hc)) (show WfC Try.prog (d + 3) 29 [x5] from h3)
    obtain ⟨lw, w, e4, iw, _⟩ := wf_sl (d := d + 2) (enc := Wal.e) Try.underlying30 z62 (fun c hc => (wfWal hc)) (show WfC Try.prog (d + 3) 30 [x6] from h4)
    simp only [Spn.e, List.cons.injEq, and_true] at e0 e1 e2 e3 e4
    obtain ⟨rfl, rfl⟩ := e0
    obtain ⟨rfl, rfl⟩ := e1
    subst e2; subst e3; subst e4
    exact ⟨⟨wi, cu, lg, la, lw⟩, x4, x5, x6, rfl, ig, ia, iw⟩
theorem wfTru {d : Nat} {c : List AV} (h : WfC Try.prog (d + 3) 35 c) : ∃ (t : Tru) (v : AV), AV.agg c = .agg [I t.wind, I t.cur, v] ∧ TruIn t v := by
  obtain ⟨hl, hf⟩ := wf_struct Try.underlying35 h
  rw [z35] at hl
  match c, hl with
  | [x, y, z], _ =>
    have h0 : WfC Try.prog (d + 2) 3 (([x, y, z].drop 0).take (Try.prog.cellsOf 3)) := hf 0 _ rfl
    have h1 : WfC Try.prog (d + 2) 3 (([x, y, z].drop 1).take (Try.prog.cellsOf 3)) := hf 1 _ rfl
    have h2 : WfC Try.prog (d + 2) 33 (([x, y, z].drop 2).take (Try.prog.cellsOf 33)) := hf 2 _ rfl
    rw [z3] at h0 h1
    rw [z33] at h2
    obtain ⟨i, rfl, hi⟩ := wfI (show WfC Try.prog (d + 1 + 1) 3 [x] from h0)
    obtain ⟨j, rfl, hj⟩ := wfI (show WfC Try.prog (d + 1 + 1) 3 [y] from h1)
    obtain ⟨l, v, e, iv, _⟩ := wf_sl (d := d + 1) (enc := fun n : Int => [I n]) (p := fun _ => True) Try.underlying33 z3 (fun c hc => by obtain ⟨i, e, _⟩ := wfIc hc; exact ⟨i, e, trivial⟩) (show WfC Try.prog (d + 2) 33 [z] from h2)
    simp only [List.cons.injEq, and_true] at e
    subst e
    exact ⟨⟨i, j, l⟩, z, rfl, ⟨iv⟩⟩
end Go.Proofs.Ytjgbiclbpgkfeaa.A
namespace Go.Proofs.Ytjgbiclbpgkfeaa.S
open Go Go.Am Go.Proofs.Ytjgbiclbpgkfeaa.T
set_option linter.unusedVariables false
set_option maxRecDepth 100000

theorem z3 : Try.prog.cellsOf 3 = 1 := by kernel_rfl
theorem z22 : Try.prog.cellsOf 22 = 1 := by kernel_rfl
theorem z23 : Try.prog.cellsOf 23 = 1 := by kernel_rfl
theorem z25 : Try.prog.cellsOf 25 = 4 := by kernel_rfl
theorem z37 : Try.prog.cellsOf 37 = 4 := by kernel_rfl
theorem z33 : Try.prog.cellsOf 33 = 1 := by kernel_rfl
theorem wfIc {d : Nat} {c : List AV} (h : WfC Try.prog (d + 1) 3 c) : ∃ i, c = [I i] ∧ True := by
  obtain ⟨i, e, hw⟩ := wf_int Try.underlying3 h
  exact ⟨i, e, trivial⟩
theorem wfI {d : Nat} {a : AV} (h : WfC Try.prog (d + 1) 3 [a]) : ∃ i, a = I i ∧ True := by
  obtain ⟨i, e, _⟩ := wfIc h
  simp only [List.cons.injEq, and_true] at e
  exact ⟨i, e, trivial⟩
theorem wfWd {d : Nat} {c : List AV} (h : WfC Try.prog (d + 2) 37 c) : ∃ s : Wd, c = s.e ∧ True := by
  obtain ⟨hl, hf⟩ := wf_struct Try.underlying37 h
  rw [z37] at hl
  match c, hl with
  | [x, y, z, u], _ =>
    have h0 : WfC Try.prog (d + 1) 3 (([x, y, z, u].drop 0).take (Try.prog.cellsOf 3)) := hf 0 _ rfl
    have h1 : WfC Try.prog (d + 1) 3 (([x, y, z, u].drop 1).take (Try.prog.cellsOf 3)) := hf 1 _ rfl
    have h2 : WfC Try.prog (d + 1) 3 (([x, y, z, u].drop 2).take (Try.prog.cellsOf 3)) := hf 2 _ rfl
    have h3 : WfC Try.prog (d + 1) 3 (([x, y, z, u].drop 3).take (Try.prog.cellsOf 3)) := hf 3 _ rfl
    rw [z3] at h0 h1 h2 h3
    obtain ⟨i, rfl, _⟩ := wfI (show WfC Try.prog (d + 1) 3 [x] from h0)
    obtain ⟨j, rfl, _⟩ := wfI (show WfC Try.prog (d + 1) 3 [y] from h1)
    obtain ⟨k, rfl, _⟩ := wfI (show WfC Try.prog (d + 1) 3 [z] from h2)
    obtain ⟨l, rfl, _⟩ := wfI (show WfC Try.prog (d + 1) 3 [u] from h3)
    exact ⟨⟨i, j, k, l⟩, rfl, trivial⟩
theorem wfLs {d : Nat} {c : List AV} (h : WfC Try.prog (d + 2) 33 c) : ∃ s : Ls, c = s.e ∧ True := by
  obtain ⟨l, v, e, iv, _⟩ := wf_sl (d := d + 1) (enc := intL) (p := fun _ => True) Try.underlying33 z3 (fun c hc => by obtain ⟨i, e, _⟩ := wfIc hc; exact ⟨i, e, trivial⟩) h
  subst e
  rcases iv with rfl | ⟨rfl, rfl⟩
  · exact ⟨⟨l, false⟩, rfl, trivial⟩
  · exact ⟨⟨[], true⟩, rfl, trivial⟩
theorem wfNu {d : Nat} {c : List AV} (h : WfC Try.prog (d + 3) 22 c) : ∃ (L : List Ls) (v : AV), c = [v] ∧ IsSl 1 Ls.e L v := by
  obtain ⟨l, v, e, iv, _⟩ := wf_sl (d := d + 2) (enc := Ls.e) (p := fun _ => True) Try.underlying22 z33 (fun c hc => wfLs hc) h
  exact ⟨l, v, e, iv⟩
theorem wfTrap {d : Nat} {c : List AV} (h : WfC Try.prog (d + 4) 25 c) : ∃ (t : Trap) (o w : AV), AV.agg c = trV t o w ∧ TrIn t o w := by
  obtain ⟨hl, hf⟩ := wf_struct Try.underlying25 h
  rw [z25] at hl
  match c, hl with
  | [x, y, z, u], _ =>
    have h0 : WfC Try.prog (d + 3) 3 (([x, y, z, u].drop 0).take (Try.prog.cellsOf 3)) := hf 0 _ rfl
    have h1 : WfC Try.prog (d + 3) 3 (([x, y, z, u].drop 1).take (Try.prog.cellsOf 3)) := hf 1 _ rfl
    have h2 : WfC Try.prog (d + 3) 22 (([x, y, z, u].drop 2).take (Try.prog.cellsOf 22)) := hf 2 _ rfl
    have h3 : WfC Try.prog (d + 3) 23 (([x, y, z, u].drop 3).take (Try.prog.cellsOf 23)) := hf 3 _ rfl
    rw [z3] at h0 h1
    rw [z22] at h2
    rw [z23] at h3
    obtain ⟨i, rfl, _⟩ := wfI (show WfC Try.prog (d + 2 + 1) 3 [x] from h0)
    obtain ⟨j, rfl, _⟩ := wfI (show WfC Try.prog (d + 2 + 1) 3 [y] from h1)
    obtain ⟨lo, o, e2, io⟩ := wfNu (show WfC Try.prog (d + 3) 22 [z] from h2)
    obtain ⟨lw, w, e3, iw, _⟩ := wf_sl (d := d + 2) (enc := Wd.e) (p := fun _ => True) Try.underlying23 z37 (fun c hc => wfWd hc) (show WfC Try.prog (d + 3) 23 [u] from h3)
    simp only [List.cons.injEq, and_true] at e2 e3
    subst e2; subst e3
    exact ⟨⟨i, j, lo, lw⟩, z, u, rfl, ⟨io, iw⟩⟩
theorem z35 : Try.prog.cellsOf 35 = 3 := by kernel_rfl
theorem z39 : Try.prog.cellsOf 39 = 9 := by kernel_rfl
theorem wfHeld {d : Nat} {c : List AV} (h : WfC Try.prog (d + 4) 39 c) : ∃ (L : List Ls) (v : AV) (x : Int) (t : A.Tru) (tv : AV) (y : Wd), AV.agg c = .agg [v, I x, I t.wind, I t.cur, tv, I y.time, I y.ch, I y.lo, I y.hi] ∧ IsSl 1 Ls.e L v ∧ A.TruIn t tv := by
  obtain ⟨hl, hf⟩ := wf_struct Try.underlying39 h
  rw [z39] at hl
  match c, hl with
  | [x0, x1, x2, x3, x4, x5, x6, x7, x8], _ =>
    have h0 : WfC Try.prog (d + 3) 22 (([x0, x1, x2, x3, x4, x5, x6, x7, x8].drop 0).take (Try.prog.cellsOf 22)) := hf 0 _ rfl
    have h1 : WfC Try.prog (d + 3) 3 (([x0, x1, x2, x3, x4, x5, x6, x7, x8].drop 1).take (Try.prog.cellsOf 3)) := hf 1 _ rfl
    have h2 : WfC Try.prog (d + 3) 35 (([x0, x1, x2, x3, x4, x5, x6, x7, x8].drop 2).take (Try.prog.cellsOf 35)) := hf 2 _ rfl
    have h3 : WfC Try.prog (d + 3) 37 (([x0, x1, x2, x3, x4, x5, x6, x7, x8].drop 5).take (Try.prog.cellsOf 37)) := hf 3 _ rfl
    rw [z22] at h0
    rw [z3] at h1
    rw [z35] at h2
    rw [z37] at h3
    obtain ⟨L, v, e0, iv⟩ := wfNu (show WfC Try.prog (d + 3) 22 [x0] from h0)
    obtain ⟨i, rfl, _⟩ := wfI (show WfC Try.prog (d + 2 + 1) 3 [x1] from h1)
    obtain ⟨t, tv, e2, it⟩ := A.wfTru (show WfC Try.prog (d + 3) 35 [x2, x3, x4] from h2)
    obtain ⟨y, e3, _⟩ := wfWd (d := d + 1) (show WfC Try.prog (d + 3) 37 [x5, x6, x7, x8] from h3)
    simp only [List.cons.injEq, and_true, AV.agg.injEq, Wd.e] at e0 e2 e3
    obtain ⟨rfl, rfl, rfl⟩ := e2
    obtain ⟨rfl, rfl, rfl, rfl⟩ := e3
    subst e0
    exact ⟨L, x0, i, t, x4, y, rfl, iv, it⟩
theorem own : ownKnob Try.prog.godebug = none := by kernel_rfl
theorem laid : laidOutB Try.prog = true := by kernel_rfl
def trapW : Value := .agg #[.int .i64 0, .int .i64 0, .slice none 0 0, .slice none 0 0]
def netW : Value := .agg #[.int .i64 0, .int .i64 0, .int .i64 0, .int .i64 0, .slice none 0 0, .slice none 0 0, .slice none 0 0]
def heldW : Value := .agg #[.slice none 0 0, .int .i64 0, .int .i64 0, .int .i64 0, .slice none 0 0, .int .i64 0, .int .i64 0, .int .i64 0, .int .i64 0]
end Go.Proofs.Ytjgbiclbpgkfeaa.S
