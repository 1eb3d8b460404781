/-
Lists of numbers that lie in a heap, and heaps that come out of one another.
-/
import Derived.Test.YtpflneddfhifkaaSj
namespace Go.Proofs.Ytpflneddfhifkaa.S
open Go Go.Am Go.Proofs.Ytpflneddfhifkaa.T
set_option maxRecDepth 100000
set_option linter.unusedSimpArgs false
set_option linter.unusedVariables false

/-- a list of numbers that lies in the heap -/
def RdS (h : List AO) (v : AV) (l : List Int) : Prop := (l = [] ∧ v = .nils) ∨ (l ≠ [] ∧ ∃ o sh, v = .ms 1 o 0 l.length ∧ h[o]? = some (.cells (l.flatMap fun n => [I n]) sh))
/-- one heap came out of another: what was there is as it was -/
structure Fr (h h' : List AO) : Prop where
  l : h.length ≤ h'.length
  k : ∀ j, j < h.length → h'[j]? = h[j]?
theorem Fr.refl (h : List AO) : Fr h h := ⟨Nat.le_refl _, fun _ _ => rfl⟩
theorem Fr.trans {a b c : List AO} (h : Fr a b) (h' : Fr b c) : Fr a c := ⟨Nat.le_trans h.l h'.l, fun j hj => (h'.k j (Nat.lt_of_lt_of_le hj h.l)).trans (h.k j hj)⟩
theorem Fr.app (h J : List AO) : Fr h (h ++ J) := ⟨by simp, fun j hj => List.getElem?_append_left hj⟩
theorem Fr.at {h h' : List AO} (F : Fr h h') {j : Nat} {x : AO} (hx : h[j]? = some x) : h'[j]? = some x := by rw [F.k j (List.getElem?_eq_some_iff.1 hx).1]; exact hx
theorem RdS.fr {h h' : List AO} {v : AV} {l : List Int} (H : RdS h v l) (F : Fr h h') : RdS h' v l := by
  rcases H with h1 | ⟨hne, o, sh, rfl, hc⟩
  · exact .inl h1
  · exact .inr ⟨hne, o, sh, rfl, F.at hc⟩
theorem RdS.len {h : List AO} {v : AV} {l : List Int} (H : RdS h v l) : lenV v = some (I l.length) ∧ v.cells = [v] ∧ v.scalar = true := by
  rcases H with ⟨rfl, rfl⟩ | ⟨hne, o, sh, rfl, hc⟩ <;> exact ⟨rfl, rfl, rfl⟩
theorem RdS.row {h : List AO} {v : AV} {l : List Int} (H : RdS h v l) : lenOf v = some l.length ∧ Am.rowOf h v = some (l.flatMap fun n => [I n]) := by
  rcases H with ⟨rfl, rfl⟩ | ⟨hne, o, sh, rfl, hc⟩
  · exact ⟨rfl, rfl⟩
  · refine ⟨rfl, ?_⟩
    have e : (l.flatMap fun n => [I n]).take (l.length * 1) = l.flatMap fun n => [I n] := List.take_of_length_le (by rw [flat1]; omega)
    rw [Nat.mul_one] at e
    simp only [rowOf_ms, Am.rowAt, hc, Option.bind_some, AO.row?, List.drop_zero, Nat.mul_one, e, flat1, if_true]
theorem RdS.view {h : List AO} {v : AV} {l : List Int} (H : RdS h v l) {st : Bool} {k : Nat} : Am.view st h (k + 1) v = some (resL l) := by
  have hr := H.row.2
  rcases H with ⟨rfl, rfl⟩ | ⟨hne, o, sh, rfl, hc⟩
  · rfl
  · rw [view_ms, hr]
    simp only [flat_view (enc := fun n : Int => [I n]) (fun a x hx => ⟨_, _, by simpa using hx⟩), Option.map_some, resL, hne, if_false]
theorem flat_sc (l : List Int) : (l.flatMap fun n => [I n]).all AV.scalar = true := scal_sl (fun _ => rfl) l
section
variable {α : Type} {l m : List α} {j : Nat} {x : α}
theorem setT : (l ++ m).set (l.length + j) x = l ++ m.set j x := by rw [List.set_append_right _ _ (by omega), Nat.add_sub_cancel_left]
theorem setT0 : (l ++ m).set l.length x = l ++ m.set 0 x := setT (j := 0)
theorem getT : (l ++ m).getD (l.length + j) x = m.getD j x := by simp [List.getD_eq_getElem?_getD, List.getElem?_append_right]
theorem getT0 : (l ++ m).getD l.length x = m.getD 0 x := getT (j := 0)
theorem atT : (l ++ m)[l.length + j]? = m[j]? := by rw [List.getElem?_append_right (by omega), Nat.add_sub_cancel_left]
theorem atT0 : (l ++ m)[l.length]? = m[0]? := atT (j := 0)
theorem set_same (h : l[j]? = some x) : l.set j x = l := by
  apply List.ext_getElem?
  intro i
  rw [List.getElem?_set]
  split
  · rename_i e; subst e
    rw [if_pos (List.getElem?_eq_some_iff.1 h).1, h]
  · rfl
end

end Go.Proofs.Ytpflneddfhifkaa.S
