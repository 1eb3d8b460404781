/-
Fewer holes are mended no later: nets without ropes, and the holes of the anchors that drag.
-/
import Derived.Test.YtmldjpeiokciiaaC2
import Derived.Test.YtmldjpeiokciiaaA2
namespace Go.Proofs.Ytmldjpeiokciiaa.S
open Go Go.Am Go.Proofs.Ytmldjpeiokciiaa.T
set_option maxRecDepth 100000
set_option linter.unusedSimpArgs false
set_option linter.unusedVariables false

/-- a net without ropes -/
def nr (m : Int) (H : List Hl) : Net := ⟨m, H, []⟩
theorem sub_erase {α : Type} {l l' : List α} (h : l'.Sublist l) : l'.length < l.length → ∃ r, r < l.length ∧ l'.Sublist (l.eraseIdx r) := by
  induction h with
  | slnil => intro h; simp at h
  | cons a h ih => intro _; exact ⟨0, by simp, h⟩
  | cons_cons a h ih =>
    intro hl
    obtain ⟨r, hr, hs⟩ := ih (by simpa using hl)
    exact ⟨r + 1, by simpa using hr, by simpa using hs⟩
theorem nr_cut {m : Int} {H : List Hl} {r : Nat} (hr : r < H.length) (hv : (nr m H).valid = true) : (nr m (H.eraseIdx r)).valid = true ∧ lea (nr m (H.eraseIdx r)) ≤ lea (nr m H) ∧ don (nr m (H.eraseIdx r)) ≤ don (nr m H) := by
  obtain ⟨G, _, _, l, O⟩ := valid_ok hv
  have hp : ∀ p ∈ (nr m H).ps, p.a ≠ r ∧ p.b ≠ r := fun p h => by cases h
  refine ⟨?_, less_cut (n := nr m H) G hr hp O⟩
  have O' := mem_ords.2 (cut_isO (n := nr m H) hr hp O)
  have ne : (ords (nr m (H.eraseIdx r))).length ≠ 0 := fun e => by
    have e2 : ords ((nr m H).cut r) = [] := List.eq_nil_of_length_eq_zero e
    rw [e2] at O'; cases O'
  simp only [Net.valid, Bool.and_eq_true, decide_eq_true_eq, List.all_eq_true] at hv ⊢
  obtain ⟨⟨⟨⟨⟨h1, h2⟩, h3⟩, h4⟩, h5⟩, h6⟩ := hv
  have el : (nr m (H.eraseIdx r)).hs.length + 1 = (nr m H).hs.length := cut_len (n := nr m H) hr
  exact ⟨⟨⟨⟨⟨h1, by omega⟩, h3⟩, fun x hx => h4 x ((List.eraseIdx_sublist H r).mem hx)⟩, fun x hx => by cases hx⟩, ne⟩
theorem nr_less {m : Int} : ∀ {k : Nat} {H H' : List Hl}, H.length = k → H'.Sublist H → (nr m H).valid = true → (nr m H').valid = true ∧ lea (nr m H') ≤ lea (nr m H) ∧ don (nr m H') ≤ don (nr m H)
  | k, H, H', hk, hs, hv => by
    by_cases hl : H'.length < H.length
    · obtain ⟨r, hr, hs2⟩ := sub_erase hs hl
      obtain ⟨v, a, b⟩ := nr_cut hr hv
      have le : (H.eraseIdx r).length + 1 = H.length := by rw [List.length_eraseIdx_of_lt hr]; omega
      match k with
      | 0 => omega
      | k + 1 =>
        obtain ⟨v', a', b'⟩ := nr_less (k := k) (by omega) hs2 v
        exact ⟨v', by omega, by omega⟩
    · have e : H' = H := hs.eq_of_length (by have := hs.length_le; omega)
      subst e
      exact ⟨hv, Int.le_refl _, Int.le_refl _⟩
theorem nr_nil {m : Int} (hv : (nr m []).valid = true) : lea (nr m []) = 0 ∧ don (nr m []) = 0 := by
  obtain ⟨G, _, _, l, O⟩ := valid_ok hv
  have e : l = [] := List.eq_nil_of_length_eq_zero O.1
  subst e
  have a := lea_bd G O
  have b := don_bd G O
  have c : lea (nr m []) ≤ 0 := lea_le O
  have d : don (nr m []) ≤ 0 := don_le O
  omega
/-- the holes of a list of anchors -/
def pick (H : List Hl) (L : List Int) : List Hl := L.map fun i => H.getD i.toNat default
theorem pick_sub {H : List Hl} {n : A.Net} {D D' : Nat → Bool} (h : A.Le n D' D) : (pick H (A.lst n D')).Sublist (pick H (A.lst n D)) := by
  unfold pick A.lst
  refine List.Sublist.map _ (List.Sublist.map _ ?_)
  have e : (List.range n.ancs.length).filter D' = ((List.range n.ancs.length).filter D).filter D' := by
    rw [List.filter_filter]
    apply List.filter_congr
    intro i hi
    have := h i (List.mem_range.1 hi)
    cases c : D' i
    · rfl
    · rw [this c]; rfl
  rw [e]
  exact List.filter_sublist
theorem pick_all {H : List Hl} {n : A.Net} (hl : H.length = n.ancs.length) {D : Nat → Bool} : (pick H (A.lst n D)).Sublist H := by
  have e : H = (List.range n.ancs.length).map fun i => H.getD i default := by
    apply List.ext_getElem
    · simp [hl]
    · intro i h1 h2
      simp [List.getD_eq_getElem?_getD, h1]
  have e2 : pick H (A.lst n D) = ((List.range n.ancs.length).filter D).map fun i => H.getD i default := by
    unfold pick A.lst
    rw [List.map_map]; rfl
  rw [e2]
  conv => rhs; rw [e]
  exact List.Sublist.map _ List.filter_sublist
theorem pick_len {H : List Hl} {L : List Int} : (pick H L).length = L.length := by simp [pick]
end Go.Proofs.Ytmldjpeiokciiaa.S
