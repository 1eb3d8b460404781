/-
In a calmer truth no more drags; the law of stage 2 on each truth.
-/
import Derived.Test.YtpflneddfhifkaaSl
namespace Go.Proofs.Ytpflneddfhifkaa.S
open Go Go.Am Go.Proofs.Ytpflneddfhifkaa.T
set_option maxRecDepth 100000
set_option linter.unusedSimpArgs false
set_option linter.unusedVariables false



/-- the first truth is calmer -/
structure Calmer (n : Net) (t t' : Tru) : Prop where
  w : t.wind ≤ t'.wind
  c : t.cur ≤ t'.cur
  g : ∀ i, i < n.grips.length → t'.grips.getD i default ≤ t.grips.getD i default

theorem calm_calmer {n : Net} {t : Tru} (G : Good n t) : Calmer n (calm n) t := by
  have h := G.tr
  simp only [truthOk, Bool.and_eq_true, inR_iff, decide_eq_true_eq, List.all_eq_true, List.mem_range] at h
  obtain ⟨⟨⟨⟨a0, a1⟩, b0, b1⟩, c⟩, d⟩ := h
  refine ⟨a0, b0, fun i hi => ?_⟩
  have e : (calm n).grips.getD i default = (n.grips.getD i default).hi := by simp [calm, List.getD_eq_getElem?_getD, hi]
  rw [e]; exact (d i (by omega)).2
theorem rough_calmer {n : Net} {t : Tru} (G : Good n t) : Calmer n t (rough n) := by
  have h := G.tr
  simp only [truthOk, Bool.and_eq_true, inR_iff, decide_eq_true_eq, List.all_eq_true, List.mem_range] at h
  obtain ⟨⟨⟨⟨a0, a1⟩, b0, b1⟩, c⟩, d⟩ := h
  refine ⟨a1, b1, fun i hi => ?_⟩
  have e : (rough n).grips.getD i default = (n.grips.getD i default).lo := by simp [rough, List.getD_eq_getElem?_getD, hi]
  rw [e]; exact (d i (by omega)).1

section
variable {n : Net} {t t' : Tru}
theorem ld_calmer (G : Fair n t) (C : Calmer n t t') {i : Nat} (hi : i < n.walls.length) : ldI n t i ≤ ldI n t' i := by
  have b := (netB G.v).w _ (getD_mem (l := n.walls) hi)
  have h1 := Int.mul_le_mul_of_nonneg_left C.w b.a0
  have h2 := Int.mul_le_mul_of_nonneg_left C.c b.b0
  unfold ldI; omega
theorem can_calmer (G : Fair n t) (C : Calmer n t t') {i : Nat} (hi : i < n.ancs.length) : canI n t' i ≤ canI n t i := by
  have b := (netB G.v).a _ (getD_mem (l := n.ancs) hi)
  have h := C.g (n.ancs.getD i default).b.toNat (by omega)
  unfold canI
  exact Int.mul_le_mul_of_nonneg_left h (by omega)
theorem twice_le {d : Bool} {x y : Int} (h : x ≤ y) : twice d x ≤ twice d y := by
  cases d <;> simp [twice] <;> omega
theorem bears_calmer (G : Fair n t) (C : Calmer n t t') {i : Nat} (hi : i < n.ancs.length) (D : Nat → Bool) : bearsI n t i D ≤ bearsI n t' i D := by
  have lw := (netB G.v).lw
  unfold bearsI
  apply Int.add_le_add
  · split
    · exact twice_le (ld_calmer G C (by omega))
    · exact Int.le_refl _
  · split
    · exact twice_le (ld_calmer G C (by omega))
    · exact Int.le_refl _
theorem spare_calmer (G : Fair n t) (C : Calmer n t t') {i : Nat} (hi : i < n.ancs.length) : spareI n t' i ≤ spareI n t i := by
  have h1 := can_calmer G C hi
  have h2 := bears_calmer G C hi none6
  unfold spareI; omega
theorem drg_calmer (G : Fair n t) (C : Calmer n t t') {i : Nat} (hi : i < n.ancs.length) {D : Nat → Bool} (h : drg n t i D = true) : drg n t' i D = true := by
  have h1 := can_calmer G C hi
  have h2 := bears_calmer G C hi D
  simp only [drg, decide_eq_true_eq] at h ⊢
  omega
theorem lfp_calmer (G : Fair n t) (G' : Fair n t') (C : Calmer n t t') : Le n (lfp n t none6) (lfp n t' none6) :=
  (none_lfp G).least _ (fun i hi h => (none_lfp G').cl i hi (drg_calmer G C hi h)) (none_lfp G').le
theorem first_part (G : Fair n t) : Le n (stepS n t none6) (lfp n t none6) :=
  step_least (good_pos G) (netB G.v).lw (none_lfp G).cl (none_lfp G).le
theorem first_at {i : Nat} : stepS n t none6 i = decide (spareI n t i < 0) := by
  rw [stepS, spareI, spare_neg]; rfl
theorem still_iff : still n t = true ↔ ∀ i, i < n.ancs.length → stepS n t none6 i = false := by
  unfold still
  rw [decide_eq_true_eq]
  constructor
  · intro h i hi
    cases hs : stepS n t none6 i with
    | false => rfl
    | true =>
      have := List.length_pos_of_mem ((mem_lst hi).2 hs)
      omega
  · intro h
    have : lst n (stepS n t none6) = lst n none6 := lst_congr fun i hi => by rw [h i hi]; rfl
    rw [this, lst_none]; rfl
theorem still_calmer (G : Fair n t) (C : Calmer n t t') (h : still n t' = true) : still n t = true := by
  rw [still_iff] at h ⊢
  intro i hi
  have := h i hi
  rw [first_at] at this ⊢
  have h2 := spare_calmer G C hi
  simp only [decide_eq_false_iff_not] at this ⊢
  omega
end

theorem safe_cases {n : Net} {t : Tru} (G : Good n t) : (safeR n = 1 ∧ ((lst n (stepS n t none6)).length : Int) = 0) ∨ (safeR n = 2 ∧ ¬ ((lst n (stepS n t none6)).length : Int) = 0) ∨ (safeR n = 3 ∧ True) := by
  have e : still n t = true ↔ ((lst n (stepS n t none6)).length : Int) = 0 := by unfold still; exact decide_eq_true_iff
  unfold safeR
  by_cases h1 : still n (rough n) = true
  · left
    exact ⟨by rw [if_pos h1], e.1 (still_calmer G.toFair (rough_calmer G) h1)⟩
  · rw [if_neg h1]
    by_cases h2 : still n (calm n) = true
    · right; right; exact ⟨by rw [if_pos h2], trivial⟩
    · right; left
      refine ⟨by rw [if_neg h2], fun h => h2 (still_calmer (calm_good G.v).toFair (calm_calmer G) (e.2 h))⟩
theorem drag_cases {n : Net} {t : Tru} (G : Good n t) {i : Nat} (hi : i < n.ancs.length) : (dragR n i (lfp n (calm n) none6 i) (lfp n (rough n) none6 i) = 1 ∧ lfp n t none6 i = true) ∨ (dragR n i (lfp n (calm n) none6 i) (lfp n (rough n) none6 i) = 2 ∧ lfp n t none6 i = false) ∨ (dragR n i (lfp n (calm n) none6 i) (lfp n (rough n) none6 i) = 3 ∧ True) := by
  have h1 := lfp_calmer (calm_good G.v).toFair G.toFair (calm_calmer G) i hi
  have h2 := lfp_calmer G.toFair (rough_good G.v).toFair (rough_calmer G) i hi
  unfold dragR
  cases hc : lfp n (calm n) none6 i <;> cases hr : lfp n (rough n) none6 i <;> cases ht : lfp n t none6 i <;> simp_all
end Go.Proofs.Ytpflneddfhifkaa.S
