/-
The law of fewer fish.
-/
import Derived.Test.YtmmibahjjeldgaaNa
namespace Go.Proofs.Ytmmibahjjeldgaa.S
open Go Go.Am Go.Proofs.Ytmmibahjjeldgaa.T
set_option maxRecDepth 100000
set_option linter.unusedSimpArgs false
set_option linter.unusedVariables false

theorem hl_shift (l : List Hl) (n : Nat) : (l.flatMap Hl.e).map (AV.shift n) = l.flatMap Hl.e := by
  induction l with
  | nil => rfl
  | cons a l ih => rw [List.flatMap_cons, List.map_append, ih]; rfl
theorem pr_shift (l : List Pr) (n : Nat) : (l.flatMap Pr.e).map (AV.shift n) = l.flatMap Pr.e := by
  induction l with
  | nil => rfl
  | cons a l ih => rw [List.flatMap_cons, List.map_append, ih]; rfl
theorem hl_put {l : List Hl} {i : Nat} (hi : i < l.length) (x : Hl) : (l.flatMap Hl.e).take (i * 4) ++ x.e ++ (l.flatMap Hl.e).drop (i * 4 + 4) = (l.set i x).flatMap Hl.e := by
  induction l generalizing i with
  | nil => simp at hi
  | cons a l ih =>
    cases i with
    | zero => rfl
    | succ i =>
      have := ih (i := i) (by simpa using hi)
      have e1 : ((a :: l).flatMap Hl.e).take ((i + 1) * 4) = a.e ++ (l.flatMap Hl.e).take (i * 4) := by
        rw [List.flatMap_cons, show (i + 1) * 4 = a.e.length + i * 4 by simp [Hl.e]; omega, List.take_length_add_append]
      have e2 : ((a :: l).flatMap Hl.e).drop ((i + 1) * 4 + 4) = (l.flatMap Hl.e).drop (i * 4 + 4) := by
        rw [List.flatMap_cons, show (i + 1) * 4 + 4 = a.e.length + (i * 4 + 4) by simp [Hl.e]; omega, List.drop_length_add_append]
      rw [e1, e2, List.set_cons_succ, List.flatMap_cons, ← this]
      simp only [List.append_assoc]
theorem hl_get {l : List Hl} {i : Nat} (hi : i < l.length) : ((l.flatMap Hl.e).drop (i * 4)).take 4 = (l.getD i default).e := by
  induction l generalizing i with
  | nil => simp at hi
  | cons a l ih =>
    cases i with
    | zero => rfl
    | succ i =>
      rw [List.flatMap_cons, show (i + 1) * 4 = a.e.length + i * 4 by simp [Hl.e]; omega, List.drop_length_add_append, ih (by simpa using hi)]
      rfl
/-- a copy of a net in a heap that was there -/
theorem C16 {n : Net} {g p : AV} (H : NetOk n g p) (h : List AO) : ∃ gv pv J og op, C2 E 16 [netV n g p] h = some (netV n gv pv, h ++ J) ∧ CpN n (h ++ J) (h.length + og) (h.length + op) gv pv ∧ og < J.length ∧ op < J.length := by
  obtain ⟨gv, pv, J, og, op, hr, hc⟩ := r16 H
  have hp : AV.pureV.go [netV n g p] = true := by
    simp only [netV, AV.pureV.go, AV.pureV, pure_sl H.g, pure_sl H.p, Bool.and_self]
  have lg := (List.getElem?_eq_some_iff.1 hc.g).1
  have lp := (List.getElem?_eq_some_iff.1 hc.p).1
  refine ⟨.ms 4 (og + h.length) 0 n.hs.length, .ms 2 (op + h.length) 0 n.ps.length, J.map (AO.shift h.length), og, op, ?_, ⟨by have := hc.ne; omega, by rw [Nat.add_comm], by rw [Nat.add_comm], ?_, ?_⟩, by simpa using lg, by simpa using lp⟩
  · rw [C2_of hp hr, hc.eg, hc.ep]; rfl
  · rw [List.getElem?_append_right (by omega), Nat.add_sub_cancel_left, List.getElem?_map, hc.g]
    show some (AO.cells ((n.hs.flatMap Hl.e).map (AV.shift h.length)) false) = _
    rw [hl_shift]
  · rw [List.getElem?_append_right (by omega), Nat.add_sub_cancel_left, List.getElem?_map, hc.p]
    show some (AO.cells ((n.ps.flatMap Pr.e).map (AV.shift h.length)) false) = _
    rw [pr_shift]
end Go.Proofs.Ytmmibahjjeldgaa.S

