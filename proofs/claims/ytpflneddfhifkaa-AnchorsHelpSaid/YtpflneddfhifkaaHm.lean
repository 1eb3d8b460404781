/-
What changes if an anchor is heavier.
-/
import Derived.Test.YtpflneddfhifkaaHa
namespace Go.Proofs.Ytpflneddfhifkaa.S
open Go Go.Am Go.Proofs.Ytpflneddfhifkaa.T
set_option maxRecDepth 100000
set_option linter.unusedSimpArgs false
set_option linter.unusedVariables false

section
variable {n : Net} {k : Nat} {x : Int}
theorem heavy_len : (heavy n k x).ancs.length = n.ancs.length := List.length_set
theorem heavy_at (hk : k < n.ancs.length) (i : Nat) : (heavy n k x).ancs.getD i default = if k = i then ⟨(n.ancs.getD k default).w + x, (n.ancs.getD k default).b⟩ else n.ancs.getD i default := by
  simp only [heavy, List.getD_eq_getElem?_getD, List.getElem?_set]
  by_cases e : k = i
  · subst e; simp [hk]
  · simp [e]
theorem heavy_valid (hv : n.valid = true) (hk : k < n.ancs.length) (h0 : 0 ≤ (n.ancs.getD k default).w + x) (h1 : (n.ancs.getD k default).w + x ≤ 20) : (heavy n k x).valid = true := by
  have b := (netB hv).a _ (getD_mem (l := n.ancs) hk)
  have e : ∀ a, ancOk (heavy n k x) a = ancOk n a := fun a => rfl
  simp only [Net.valid, Bool.and_eq_true] at hv ⊢
  obtain ⟨⟨⟨⟨⟨⟨⟨a1, a2⟩, a3⟩, a4⟩, a5⟩, a6⟩, a7⟩, a8⟩ := hv
  refine ⟨⟨⟨⟨⟨⟨⟨a1, a2⟩, a3⟩, ?_⟩, ?_⟩, a6⟩, ?_⟩, a8⟩
  · rw [heavy_len]; exact a4
  · rw [heavy_len]; exact a5
  · rw [List.all_eq_true] at a7 ⊢
    intro y hy
    rw [e]
    rcases List.mem_or_eq_of_mem_set hy with h | rfl
    · exact a7 y h
    · simp only [ancOk, Bool.and_eq_true, inR_iff]
      omega
theorem heavy_bears {t : Tru} (i : Nat) (D : Nat → Bool) : bearsI (heavy n k x) t i D = bearsI n t i D := by
  unfold bearsI; rw [heavy_len]; rfl
theorem heavy_can {t : Tru} (G : Fair n t) (hk : k < n.ancs.length) (hx : 0 ≤ x) {i : Nat} (hi : i < n.ancs.length) : canI n t i ≤ canI (heavy n k x) t i := by
  unfold canI
  rw [heavy_at hk]
  split
  · rename_i e; subst e
    obtain ⟨w0, w1, b0, b1, _⟩ := good_anc G hi
    have g := (good_tru G).2.2.2 (n.ancs.getD k default).b.toNat (by omega)
    exact Int.mul_le_mul_of_nonneg_right (by simp only; omega) g.1
  · exact Int.le_refl _
theorem heavy_drg {t : Tru} (G : Fair n t) (hk : k < n.ancs.length) (hx : 0 ≤ x) {i : Nat} (hi : i < n.ancs.length) {D : Nat → Bool} (h : drg (heavy n k x) t i D = true) : drg n t i D = true := by
  have := heavy_can G hk hx hi
  simp only [drg, decide_eq_true_eq, heavy_bears] at h ⊢
  omega
theorem heavy_fair {t : Tru} (G : Fair n t) (hv : (heavy n k x).valid = true) : Fair (heavy n k x) t := ⟨hv, G.b⟩
theorem heavy_good {t : Tru} (G : Good n t) (hv : (heavy n k x).valid = true) : Good (heavy n k x) t := good_of hv G.tr
theorem heavy_lst (D : Nat → Bool) : lst (heavy n k x) D = lst n D := by unfold lst; rw [heavy_len]
theorem heavy_lfp {t : Tru} (G : Fair n t) (hv : (heavy n k x).valid = true) (hk : k < n.ancs.length) (hx : 0 ≤ x) : Le n (lfp (heavy n k x) t none6) (lfp n t none6) := by
  have := (none_lfp (heavy_fair G hv)).least (lfp n t none6) (fun i hi h => by
    rw [heavy_len] at hi
    exact (none_lfp G).cl i hi (heavy_drg G hk hx hi h)) (fun i hi h => by simp [none6] at h)
  intro i hi
  exact this i (by rw [heavy_len]; exact hi)
theorem heavy_still {t : Tru} (G : Fair n t) (hk : k < n.ancs.length) (hx : 0 ≤ x) (h : still n t = true) : still (heavy n k x) t = true := by
  rw [still_iff] at h ⊢
  intro i hi
  rw [heavy_len] at hi
  have h1 := h i hi
  simp only [stepS, Bool.or_eq_false_iff] at h1 ⊢
  refine ⟨h1.1, ?_⟩
  cases hd : drg (heavy n k x) t i none6 with
  | false => rfl
  | true => rw [heavy_drg G hk hx hi hd] at h1; exact absurd h1.2 (by simp)
end
theorem lwGo_mono {n n' : Net} {t : Tru} : ∀ {f i : Nat}, (∀ j : Nat, j < i + f → still n (inW t j) = true → still n' (inW t j) = true) → lwGo n t f i ≤ lwGo n' t f i
  | 0, i, _ => Nat.le_refl _
  | f + 1, i, h => by
    rw [lwGo, lwGo]
    by_cases h1 : still n (inW t i) = true
    · rw [if_pos h1, if_pos (h i (by omega) h1)]
      exact lwGo_mono (fun j hj => h j (by omega))
    · rw [if_neg h1]
      split
      · have := lwGo_ge (n := n') (t := t) (f := f) (i := i + 1); omega
      · exact Nat.le_refl _
where
  lwGo_ge {n : Net} {t : Tru} : ∀ {f i : Nat}, i ≤ lwGo n t f i
  | 0, i => Nat.le_refl _
  | f + 1, i => by
    rw [lwGo]; split
    · have := lwGo_ge (n := n) (t := t) (f := f) (i := i + 1); omega
    · exact Nat.le_refl _
theorem heavy_lw {n : Net} {k : Nat} {x : Int} {t : Tru} (G : Fair n t) (hk : k < n.ancs.length) (hx : 0 ≤ x) : lw n t ≤ lw (heavy n k x) t :=
  lwGo_mono fun j hj h => heavy_still (fair_w G (by omega) (by omega)) hk hx h

theorem calm_le {n : Net} (hv : n.valid = true) : Le n (lfp n (calm n) none6) (lfp n (rough n) none6) :=
  lfp_calmer (calm_good hv).toFair (rough_good hv).toFair (rough_calmer (calm_good hv))

/-- what is known of an anchor's drag, behind and before an anchor is heavier -/
theorem heavy_drag {n : Net} {k : Nat} {x : Int} (hv : n.valid = true) (hv' : (heavy n k x).valid = true) (hk : k < n.ancs.length) (hx : 0 ≤ x) {i : Nat} (hi : i < n.ancs.length) :
    ∃ p q : Int, p = dragR n i (lfp n (calm n) none6 i) (lfp n (rough n) none6 i) ∧ q = dragR (heavy n k x) i (lfp (heavy n k x) (calm (heavy n k x)) none6 i) (lfp (heavy n k x) (rough (heavy n k x)) none6 i) ∧
      ((p = 1 ∧ q = 1) ∨ (p = 1 ∧ q = 3) ∨ (p = 1 ∧ q = 2) ∨ (p = 3 ∧ q = 3) ∨ (p = 3 ∧ q = 2) ∨ (p = 2 ∧ q = 2)) := by
  have h1 := calm_le hv i hi
  have h2 := heavy_lfp (k := k) (x := x) (calm_good hv).toFair hv' hk hx i hi
  have h3 := heavy_lfp (k := k) (x := x) (rough_good hv).toFair hv' hk hx i hi
  have h4 := calm_le hv' i (by rw [heavy_len]; exact hi)
  have e1 : calm (heavy n k x) = calm n := rfl
  have e2 : rough (heavy n k x) = rough n := rfl
  rw [e1, e2] at h4 ⊢
  refine ⟨_, _, rfl, rfl, ?_⟩
  unfold dragR
  cases a : lfp n (calm n) none6 i <;> cases b : lfp n (rough n) none6 i <;> cases c : lfp (heavy n k x) (calm n) none6 i <;> cases d : lfp (heavy n k x) (rough n) none6 i <;> simp_all
end Go.Proofs.Ytpflneddfhifkaa.S
