/-
The law of fewer fish.
-/
import Derived.Test.YtekoplcnlhanbaaNa
namespace Go.Proofs.Ytekoplcnlhanbaa.S
open Go Go.Am Go.Proofs.Ytekoplcnlhanbaa.T
set_option maxRecDepth 100000
set_option linter.unusedSimpArgs false
set_option linter.unusedVariables false

theorem hl_shift (l : List Hl) (n : Nat) : (l.flatMap Hl.e).map (AV.shift n) = l.flatMap Hl.e := by
  induction l with
  | nil => rfl
  | cons a l ih => rw [List.flatMap_cons, List.map_append, ih]; rfl
theorem pr_shift (l : List Pr) (n : Nat) : (l.flatMap Pr.e).map (AV.shift n) = l.flatMap Pr.e := by
  induction l with
  | nil => rfl
  | cons a l ih => rw [List.flatMap_cons, List.map_append, ih]; rfl
/-- a copy of a net in a heap that was there -/
theorem C16 {n : Net} {g p : AV} (H : NetOk n g p) (h : List AO) : ∃ gv pv J og op, C2 E 16 [netV n g p] h = some (netV n gv pv, h ++ J) ∧ CpN n (h ++ J) (h.length + og) (h.length + op) gv pv ∧ og < J.length ∧ op < J.length := by
  obtain ⟨gv, pv, J, og, op, hr, hc⟩ := r16 H
  have hp : AV.pureV.go [netV n g p] = true := by
    simp only [netV, AV.pureV.go, AV.pureV, pure_sl H.g, pure_sl H.p, Bool.and_self]
  have lg := (List.getElem?_eq_some_iff.1 hc.g).1
  have lp := (List.getElem?_eq_some_iff.1 hc.p).1
  refine ⟨.ms 4 (og + h.length) 0 n.hs.length, .ms 2 (op + h.length) 0 n.ps.length, J.map (AO.shift h.length), og, op, ?_, ⟨by have := hc.ne; omega, by rw [Nat.add_comm], by rw [Nat.add_comm], ?_, ?_⟩, by simpa using lg, by simpa using lp⟩
  · rw [C2_of hp hr, hc.eg, hc.ep]; rfl
  · rw [List.getElem?_append_right (by omega), Nat.add_sub_cancel_left, List.getElem?_map, hc.g]
    show some (AO.cells ((n.hs.flatMap Hl.e).map (AV.shift h.length)) false) = _
    rw [hl_shift]
  · rw [List.getElem?_append_right (by omega), Nat.add_sub_cancel_left, List.getElem?_map, hc.p]
    show some (AO.cells ((n.ps.flatMap Pr.e).map (AV.shift h.length)) false) = _
    rw [pr_shift]
end Go.Proofs.Ytekoplcnlhanbaa.S

