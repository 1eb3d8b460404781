/-
The inputs of the law through the layers 2 and 4, as the abstract machine has them.
-/
import Derived.Test.YtmldjpeiokciiaaVb
import Derived.Test.YtmldjpeiokciiaaAmY
namespace Go.Proofs.Ytmldjpeiokciiaa.A
open Go Go.Am Go.Proofs.Ytmldjpeiokciiaa.T
set_option linter.unusedVariables false
set_option maxRecDepth 100000

def i64ok (n : Int) : Prop := -9223372036854775808 ≤ n ∧ n ≤ 9223372036854775807
theorem i64_of {n : Int} (h : (Lit.int .i64 n).wf = true) : i64ok n := by
  simpa [Lit.wf, IntKind.min, IntKind.max, IntKind.signed, IntKind.bits, i64ok] using h
theorem z3 : Try.prog.cellsOf 3 = 1 := by kernel_rfl
theorem z23 : Try.prog.cellsOf 23 = 2 := by kernel_rfl
theorem z24 : Try.prog.cellsOf 24 = 1 := by kernel_rfl
theorem z25 : Try.prog.cellsOf 25 = 1 := by kernel_rfl
theorem z26 : Try.prog.cellsOf 26 = 1 := by kernel_rfl
theorem z28 : Try.prog.cellsOf 28 = 7 := by kernel_rfl
theorem z29 : Try.prog.cellsOf 29 = 1 := by kernel_rfl
theorem z31 : Try.prog.cellsOf 31 = 3 := by kernel_rfl
theorem z51 : Try.prog.cellsOf 51 = 2 := by kernel_rfl
theorem z53 : Try.prog.cellsOf 53 = 5 := by kernel_rfl
theorem wfI {d : Nat} {a : AV} (h : WfC Try.prog (d + 1) 3 [a]) : ∃ i, a = I i ∧ i64ok i := by
  obtain ⟨i, e, hw⟩ := wf_int Try.underlying3 h
  simp only [List.cons.injEq, and_true] at e
  exact ⟨i, e, i64_of hw⟩
theorem wfIc {d : Nat} {c : List AV} (h : WfC Try.prog (d + 1) 3 c) : ∃ i, c = [I i] ∧ i64ok i := by
  obtain ⟨i, e, hw⟩ := wf_int Try.underlying3 h
  exact ⟨i, e, i64_of hw⟩
theorem wfSpn {d : Nat} {c : List AV} (h : WfC Try.prog (d + 2) 23 c) : ∃ s : Spn, c = s.e ∧ i64ok s.lo ∧ i64ok s.hi := by
  obtain ⟨hl, hf⟩ := wf_struct Try.underlying23 h
  rw [z23] at hl
  match c, hl with
  | [x, y], _ =>
    have h0 : WfC Try.prog (d + 1) 3 (([x, y].drop 0).take (Try.prog.cellsOf 3)) := hf 0 _ rfl
    have h1 : WfC Try.prog (d + 1) 3 (([x, y].drop 1).take (Try.prog.cellsOf 3)) := hf 1 _ rfl
    rw [z3] at h0
    rw [z3] at h1
    obtain ⟨i, rfl, hi⟩ := wfI (show WfC Try.prog (d + 1) 3 [x] from h0)
    obtain ⟨j, rfl, hj⟩ := wfI (show WfC Try.prog (d + 1) 3 [y] from h1)
    exact ⟨⟨i, j⟩, rfl, hi, hj⟩
theorem wfAnc {d : Nat} {c : List AV} (h : WfC Try.prog (d + 2) 51 c) : ∃ s : Anc, c = s.e ∧ True := by
  obtain ⟨hl, hf⟩ := wf_struct Try.underlying51 h
  rw [z51] at hl
  match c, hl with
  | [x, y], _ =>
    have h0 : WfC Try.prog (d + 1) 3 (([x, y].drop 0).take (Try.prog.cellsOf 3)) := hf 0 _ rfl
    have h1 : WfC Try.prog (d + 1) 3 (([x, y].drop 1).take (Try.prog.cellsOf 3)) := hf 1 _ rfl
    rw [z3] at h0
    rw [z3] at h1
    obtain ⟨i, rfl, hi⟩ := wfI (show WfC Try.prog (d + 1) 3 [x] from h0)
    obtain ⟨j, rfl, hj⟩ := wfI (show WfC Try.prog (d + 1) 3 [y] from h1)
    exact ⟨⟨i, j⟩, rfl, trivial⟩
theorem wfWal {d : Nat} {c : List AV} (h : WfC Try.prog (d + 2) 53 c) : ∃ s : Wal, c = s.e ∧ True := by
  obtain ⟨hl, hf⟩ := wf_struct Try.underlying53 h
  rw [z53] at hl
  match c, hl with
  | [x, y, z, u, v], _ =>
    have h0 : WfC Try.prog (d + 1) 3 (([x, y, z, u, v].drop 0).take (Try.prog.cellsOf 3)) := hf 0 _ rfl
    have h1 : WfC Try.prog (d + 1) 3 (([x, y, z, u, v].drop 1).take (Try.prog.cellsOf 3)) := hf 1 _ rfl
    have h2 : WfC Try.prog (d + 1) 3 (([x, y, z, u, v].drop 2).take (Try.prog.cellsOf 3)) := hf 2 _ rfl
    have h3 : WfC Try.prog (d + 1) 3 (([x, y, z, u, v].drop 3).take (Try.prog.cellsOf 3)) := hf 3 _ rfl
    have h4 : WfC Try.prog (d + 1) 3 (([x, y, z, u, v].drop 4).take (Try.prog.cellsOf 3)) := hf 4 _ rfl
    rw [z3] at h0
    rw [z3] at h1
    rw [z3] at h2
    rw [z3] at h3
    rw [z3] at h4
    obtain ⟨i, rfl, hi⟩ := wfI (show WfC Try.prog (d + 1) 3 [x] from h0)
    obtain ⟨j, rfl, hj⟩ := wfI (show WfC Try.prog (d + 1) 3 [y] from h1)
    obtain ⟨k, rfl, hk⟩ := wfI (show WfC Try.prog (d + 1) 3 [z] from h2)
    obtain ⟨l, rfl, hl⟩ := wfI (show WfC Try.prog (d + 1) 3 [u] from h3)
    obtain ⟨m, rfl, hm⟩ := wfI (show WfC Try.prog (d + 1) 3 [v] from h4)
    exact ⟨⟨i, j, k, l, m⟩, rfl, trivial⟩
theorem wfNet {d : Nat} {c : List AV} (h : WfC Try.prog (d + 4) 28 c) : ∃ (n : Net) (g a w : AV), AV.agg c = netV n g a w ∧ NetIn n g a w := by
  obtain ⟨hl, hf⟩ := wf_struct Try.underlying28 h
  rw [z28] at hl
  match c, hl with
  | [x0, x1, x2, x3, x4, x5, x6], _ =>
    have h0 : WfC Try.prog (d + 3) 23 (([x0, x1, x2, x3, x4, x5, x6].drop 0).take (Try.prog.cellsOf 23)) := hf 0 _ rfl
    have h1 : WfC Try.prog (d + 3) 23 (([x0, x1, x2, x3, x4, x5, x6].drop 2).take (Try.prog.cellsOf 23)) := hf 1 _ rfl
    have h2 : WfC Try.prog (d + 3) 24 (([x0, x1, x2, x3, x4, x5, x6].drop 4).take (Try.prog.cellsOf 24)) := hf 2 _ rfl
    have h3 : WfC Try.prog (d + 3) 25 (([x0, x1, x2, x3, x4, x5, x6].drop 5).take (Try.prog.cellsOf 25)) := hf 3 _ rfl
    have h4 : WfC Try.prog (d + 3) 26 (([x0, x1, x2, x3, x4, x5, x6].drop 6).take (Try.prog.cellsOf 26)) := hf 4 _ rfl
    rw [z23] at h0
    rw [z23] at h1
    rw [z24] at h2
    rw [z25] at h3
    rw [z26] at h4
    obtain ⟨wi, e0, _⟩ := wfSpn (d := d + 1) (show WfC Try.prog (d + 3) 23 [x0, x1] from h0)
    obtain ⟨cu, e1, _⟩ := wfSpn (d := d + 1) (show WfC Try.prog (d + 3) 23 [x2, x3] from h1)
    obtain ⟨lg, g, e2, ig, _⟩ := wf_sl (d := d + 2) (enc := Spn.e) Try.underlying24 z23 (fun c hc => (wfSpn hc)) (show WfC Try.prog (d + 3) 24 [x4] from h2)
    obtain ⟨la, a, e3, ia, _⟩ := wf_sl (d := d + 2) (enc := Anc.e) Try.underlying25 z51 (fun c hc => (wfAnc hc)) (show WfC Try.prog (d + 3) 25 [x5] from h3)
    obtain ⟨lw, w, e4, iw, _⟩ := wf_sl (d := d + 2) (enc := Wal.e) Try.underlying26 z53 (fun c hc => (wfWal hc)) (show WfC Try.prog (d + 3) 26 [x6] from h4)
    simp only [Spn.e, List.cons.injEq, and_true] at e0 e1 e2 e3 e4
    obtain ⟨rfl, rfl⟩ := e0
    obtain ⟨rfl, rfl⟩ := e1
    subst e2; subst e3; subst e4
    exact ⟨⟨wi, cu, lg, la, lw⟩, x4, x5, x6, rfl, ig, ia, iw⟩
theorem wfTru {d : Nat} {c : List AV} (h : WfC Try.prog (d + 3) 31 c) : ∃ (t : Tru) (v : AV), AV.agg c = .agg [I t.wind, I t.cur, v] ∧ TruIn t v := by
  obtain ⟨hl, hf⟩ := wf_struct Try.underlying31 h
  rw [z31] at hl
  match c, hl with
  | [x, y, z], _ =>
    have h0 : WfC Try.prog (d + 2) 3 (([x, y, z].drop 0).take (Try.prog.cellsOf 3)) := hf 0 _ rfl
    have h1 : WfC Try.prog (d + 2) 3 (([x, y, z].drop 1).take (Try.prog.cellsOf 3)) := hf 1 _ rfl
    have h2 : WfC Try.prog (d + 2) 29 (([x, y, z].drop 2).take (Try.prog.cellsOf 29)) := hf 2 _ rfl
    rw [z3] at h0 h1
    rw [z29] at h2
    obtain ⟨i, rfl, hi⟩ := wfI (show WfC Try.prog (d + 1 + 1) 3 [x] from h0)
    obtain ⟨j, rfl, hj⟩ := wfI (show WfC Try.prog (d + 1 + 1) 3 [y] from h1)
    obtain ⟨l, v, e, iv, _⟩ := wf_sl (d := d + 1) (enc := fun n : Int => [I n]) (p := fun _ => True) Try.underlying29 z3 (fun c hc => by obtain ⟨i, e, _⟩ := wfIc hc; exact ⟨i, e, trivial⟩) (show WfC Try.prog (d + 2) 29 [z] from h2)
    simp only [List.cons.injEq, and_true] at e
    subst e
    exact ⟨⟨i, j, l⟩, z, rfl, ⟨iv⟩⟩
end Go.Proofs.Ytmldjpeiokciiaa.A
namespace Go.Proofs.Ytmldjpeiokciiaa.S
open Go Go.Am Go.Proofs.Ytmldjpeiokciiaa.T
set_option linter.unusedVariables false
set_option maxRecDepth 100000

theorem z3 : Try.prog.cellsOf 3 = 1 := by kernel_rfl
theorem z32 : Try.prog.cellsOf 32 = 1 := by kernel_rfl
theorem z23 : Try.prog.cellsOf 23 = 2 := by kernel_rfl
theorem z55 : Try.prog.cellsOf 55 = 4 := by kernel_rfl
theorem wfIc {d : Nat} {c : List AV} (h : WfC Try.prog (d + 1) 3 c) : ∃ i, c = [I i] ∧ True := by
  obtain ⟨i, e, hw⟩ := wf_int Try.underlying3 h
  exact ⟨i, e, trivial⟩
theorem wfI {d : Nat} {a : AV} (h : WfC Try.prog (d + 1) 3 [a]) : ∃ i, a = I i ∧ True := by
  obtain ⟨i, e, _⟩ := wfIc h
  simp only [List.cons.injEq, and_true] at e
  exact ⟨i, e, trivial⟩
theorem wfSpn {d : Nat} {c : List AV} (h : WfC Try.prog (d + 2) 23 c) : ∃ a b : Int, c = [I a, I b] := by
  obtain ⟨hl, hf⟩ := wf_struct Try.underlying23 h
  rw [z23] at hl
  match c, hl with
  | [x, y], _ =>
    have h0 : WfC Try.prog (d + 1) 3 (([x, y].drop 0).take (Try.prog.cellsOf 3)) := hf 0 _ rfl
    have h1 : WfC Try.prog (d + 1) 3 (([x, y].drop 1).take (Try.prog.cellsOf 3)) := hf 1 _ rfl
    rw [z3] at h0 h1
    obtain ⟨i, rfl, _⟩ := wfI (show WfC Try.prog (d + 1) 3 [x] from h0)
    obtain ⟨j, rfl, _⟩ := wfI (show WfC Try.prog (d + 1) 3 [y] from h1)
    exact ⟨i, j, rfl⟩
theorem wfHl {d : Nat} {c : List AV} (h : WfC Try.prog (d + 3) 55 c) : ∃ s : Hl, c = s.e ∧ True := by
  obtain ⟨hl, hf⟩ := wf_struct Try.underlying55 h
  rw [z55] at hl
  match c, hl with
  | [x, y, z, u], _ =>
    have h0 : WfC Try.prog (d + 2) 3 (([x, y, z, u].drop 0).take (Try.prog.cellsOf 3)) := hf 0 _ rfl
    have h1 : WfC Try.prog (d + 2) 23 (([x, y, z, u].drop 1).take (Try.prog.cellsOf 23)) := hf 1 _ rfl
    have h2 : WfC Try.prog (d + 2) 3 (([x, y, z, u].drop 3).take (Try.prog.cellsOf 3)) := hf 2 _ rfl
    rw [z3] at h0 h2
    rw [z23] at h1
    obtain ⟨i, rfl, _⟩ := wfI (show WfC Try.prog (d + 1 + 1) 3 [x] from h0)
    obtain ⟨a, b, e⟩ := wfSpn (show WfC Try.prog (d + 2) 23 [y, z] from h1)
    obtain ⟨j, rfl, _⟩ := wfI (show WfC Try.prog (d + 1 + 1) 3 [u] from h2)
    simp only [List.cons.injEq, and_true] at e
    obtain ⟨rfl, rfl⟩ := e
    exact ⟨⟨i, a, b, j⟩, rfl, trivial⟩
theorem z31 : Try.prog.cellsOf 31 = 3 := by kernel_rfl
theorem z34 : Try.prog.cellsOf 34 = 8 := by kernel_rfl
theorem wfTorn {d : Nat} {c : List AV} (h : WfC Try.prog (d + 5) 34 c) : ∃ (t u : A.Tru) (tv uv : AV) (L : List Hl) (v : AV) (m : Int), AV.agg c = .agg [I t.wind, I t.cur, tv, I u.wind, I u.cur, uv, v, I m] ∧ A.TruIn t tv ∧ A.TruIn u uv ∧ IsSl 4 Hl.e L v := by
  obtain ⟨hl, hf⟩ := wf_struct Try.underlying34 h
  rw [z34] at hl
  match c, hl with
  | [x0, x1, x2, x3, x4, x5, x6, x7], _ =>
    have h0 : WfC Try.prog (d + 4) 31 (([x0, x1, x2, x3, x4, x5, x6, x7].drop 0).take (Try.prog.cellsOf 31)) := hf 0 _ rfl
    have h1 : WfC Try.prog (d + 4) 31 (([x0, x1, x2, x3, x4, x5, x6, x7].drop 3).take (Try.prog.cellsOf 31)) := hf 1 _ rfl
    have h2 : WfC Try.prog (d + 4) 32 (([x0, x1, x2, x3, x4, x5, x6, x7].drop 6).take (Try.prog.cellsOf 32)) := hf 2 _ rfl
    have h3 : WfC Try.prog (d + 4) 3 (([x0, x1, x2, x3, x4, x5, x6, x7].drop 7).take (Try.prog.cellsOf 3)) := hf 3 _ rfl
    rw [z31] at h0 h1
    rw [z32] at h2
    rw [z3] at h3
    obtain ⟨t, tv, e0, it⟩ := A.wfTru (d := d + 1) (show WfC Try.prog (d + 1 + 3) 31 [x0, x1, x2] from h0)
    obtain ⟨u, uv, e1, iu⟩ := A.wfTru (d := d + 1) (show WfC Try.prog (d + 1 + 3) 31 [x3, x4, x5] from h1)
    obtain ⟨L, v, e2, iv, _⟩ := wf_sl (d := d + 3) (enc := Hl.e) (p := fun _ => True) Try.underlying32 z55 (fun c hc => wfHl hc) (show WfC Try.prog (d + 4) 32 [x6] from h2)
    obtain ⟨m, rfl, _⟩ := wfI (show WfC Try.prog (d + 3 + 1) 3 [x7] from h3)
    simp only [List.cons.injEq, and_true, AV.agg.injEq] at e0 e1 e2
    obtain ⟨rfl, rfl, rfl⟩ := e0
    obtain ⟨rfl, rfl, rfl⟩ := e1
    subst e2
    exact ⟨t, u, x2, x5, L, x6, m, rfl, it, iu, iv⟩
theorem own : ownKnob Try.prog.godebug = none := by kernel_rfl
theorem laid : laidOutB Try.prog = true := by kernel_rfl
def netW : Value := .agg #[.int .i64 0, .int .i64 0, .int .i64 0, .int .i64 0, .slice none 0 0, .slice none 0 0, .slice none 0 0]
def tornW : Value := .agg #[.int .i64 0, .int .i64 0, .slice none 0 0, .int .i64 0, .int .i64 0, .slice none 0 0, .slice none 0 0, .int .i64 0]
end Go.Proofs.Ytmldjpeiokciiaa.S
