/-
All weights, so many times.
-/
import Derived.Test.YtaeijjfgfenfhaaNz
namespace Go.Proofs.Ytaeijjfgfenfhaa.S
open Go Go.Am Go.Proofs.Ytaeijjfgfenfhaa.T
set_option maxRecDepth 100000
set_option linter.unusedSimpArgs false
set_option linter.unusedVariables false

/-- the first weights, so many times -/
def mulTo (C : List Nd) (k : Int) : Nat → List Nd
  | 0 => C
  | m + 1 => wth (mulTo C k m) m ((ndA (mulTo C k m) m).w * k)
theorem mul_len {C : List Nd} {k : Int} : ∀ m, (mulTo C k m).length = C.length
  | 0 => rfl
  | m + 1 => by rw [mulTo, wth_len, mul_len m]
theorem mul_at {C : List Nd} {k : Int} : ∀ m, m ≤ C.length → ∀ j, ndA (mulTo C k m) j = if j < m then { ndA C j with w := (ndA C j).w * k } else ndA C j
  | 0, _, j => by simp [mulTo]
  | m + 1, hm, j => by
    have ih := mul_at (C := C) (k := k) m (by omega)
    rw [mulTo, wth_at (by rw [mul_len]; omega)]
    by_cases e : j = m
    · subst e
      rw [if_pos rfl, if_pos (by omega), ih, if_neg (by omega)]
    · rw [if_neg e, ih]
      have : (j < m + 1) = (j < m) := by simp only [eq_iff_iff]; omega
      simp only [this]
structure MuOk (C D : List Nd) (k : Int) : Prop where
  hk : 1 ≤ k
  hD : D.length = C.length
  hat : ∀ j, j < C.length → ndA D j = { ndA C j with w := (ndA C j).w * k }
section
variable {C D : List Nd} {k : Int} (M : MuOk C D k)
include M
theorem mu_bl {i : Int} : ∀ m, m ≤ C.length → bl D i m = bl C i m
  | 0, _ => rfl
  | m + 1, hm => by
    have e : (ndA D m).up = (ndA C m).up := by rw [M.hat m (by omega)]
    rw [bl_succ, bl_succ, mu_bl m (by omega), e]
theorem mu_fx {p : Int} {l : List Nat} (hl : ∀ j ∈ l, j < C.length) : fxR D p l = fxR C p l := by
  refine snocRec (fun l => (∀ j ∈ l, j < C.length) → fxR D p l = fxR C p l) l (fun _ => rfl) ?_ hl
  intro l c ih hl
  rw [fxR_snoc, fxR_snoc, ih fun j hj => hl j (by simp [hj]), M.hat c (hl c (by simp))]
theorem mu_sm {l : List Nat} (hl : ∀ j ∈ l, j < C.length) : smW D l = smW C l * k := by
  refine snocRec (fun l => (∀ j ∈ l, j < C.length) → smW D l = smW C l * k) l (fun _ => by simp [smW]) ?_ hl
  intro l c ih hl
  rw [smW_snoc, smW_snoc, ih fun j hj => hl j (by simp [hj]), M.hat c (hl c (by simp)), Int.add_mul]
theorem mu_pt {R S : Int} {j : Nat} (hj : j < C.length) : pt D R (S * k) j = pt C R S j := by
  unfold pt
  rw [M.hat j hj, show R * ((ndA C j).w * k) = (R * (ndA C j).w) * k from (Int.mul_assoc _ _ _).symm]
  exact Int.mul_tdiv_mul_of_pos_left _ _ (by have := M.hk; omega)
theorem mu_lf {R S : Int} {l : List Nat} (hl : ∀ j ∈ l, j < C.length) : lfR D R (S * k) l = lfR C R S l := by
  refine snocRec (fun l => (∀ j ∈ l, j < C.length) → lfR D R (S * k) l = lfR C R S l) l (fun _ => rfl) ?_ hl
  intro l c ih hl
  rw [lfR_snoc, lfR_snoc, ih fun j hj => hl j (by simp [hj]), mu_pt M (hl c (by simp))]
theorem mu_w {j : Nat} (hj : j < C.length) : (0 < (ndA D j).w) = (0 < (ndA C j).w) := by
  rw [M.hat j hj, eq_iff_iff]
  show 0 < (ndA C j).w * k ↔ _
  constructor
  · intro h
    have hk := M.hk
    have h2 : 0 * k < (ndA C j).w * k := by rw [Int.zero_mul]; exact h
    exact Int.lt_of_mul_lt_mul_right h2 (by omega)
  · intro h; exact Int.mul_pos h (by have := M.hk; omega)
theorem mu_ex {r : Int} {l : List Nat} (hl : ∀ j ∈ l, j < C.length) : exR D r l = exR C r l := by
  refine snocRec (fun l => (∀ j ∈ l, j < C.length) → exR D r l = exR C r l) l (fun _ => rfl) ?_ hl
  intro l c ih hl
  rw [exR_snoc, exR_snoc, ih fun j hj => hl j (by simp [hj])]
  simp only [mu_w M (hl c (by simp))]
theorem mu_S {i : Int} : rsS D i = rsS C i * k := by
  unfold rsS
  rw [M.hD, mu_bl M _ (Nat.le_refl _), mu_sm M fun j hj => bl_lt (Nat.le_refl _) hj]
theorem mu_R {i p : Int} : rsR D i p = rsR C i p := by
  unfold rsR
  rw [M.hD, mu_bl M _ (Nat.le_refl _), mu_fx M fun j hj => bl_lt (Nat.le_refl _) hj]
theorem mu_L {i p : Int} : rsL D i p = rsL C i p := by
  unfold rsL
  rw [mu_R M, mu_S M, M.hD, mu_bl M _ (Nat.le_refl _), mu_lf M fun j hj => bl_lt (Nat.le_refl _) hj]
theorem mu_S0 {i : Int} : (rsS D i = 0) = (rsS C i = 0) := by
  rw [mu_S M, eq_iff_iff]
  constructor
  · intro h
    rcases Int.mul_eq_zero.1 h with h | h
    · exact h
    · have := M.hk; omega
  · intro h; rw [h, Int.zero_mul]
theorem mu_sp {i p : Int} {j : Nat} (hj : j < C.length) : spv D i p j = spv C i p j := by
  have hl : ∀ x ∈ bl C i j, x < C.length := fun x hx => bl_lt (by omega) hx
  unfold spv fvV exV
  have hf : (ndA D j).f = (ndA C j).f := by rw [M.hat j hj]
  simp only [mu_S0 M, mu_R M, mu_L M, mu_bl M j (by omega), mu_fx M hl, mu_ex M hl, mu_w M hj, hf]
  rw [mu_S M, mu_pt M hj]
theorem mu_gG (H : CuOk C) (H' : CuOk D) {p : Int} : ∀ j, j < C.length → gG D p j = gG C p j := by
  intro j
  induction j using Nat.strongRecOn with
  | _ j ih =>
    intro hj
    by_cases e : j = 0
    · subst e; rw [gG_zero, gG_zero]
    · have hu := H.up j (by omega) hj
      have e2 : (ndA D j).up = (ndA C j).up := by rw [M.hat j hj]
      rw [gG_eq H (by omega) hj, gG_eq H' (by omega) (by rw [M.hD]; exact hj), e2, ih _ (by omega) (by omega), mu_sp M hj]
theorem mu_exA (H : CuOk C) (H' : CuOk D) : ∀ j, j < C.length → ∃ c : Nat, 0 < c ∧ exA D j = (c * (exA C j).1, c * (exA C j).2) := by
  intro j
  induction j using Nat.strongRecOn with
  | _ j ih =>
    intro hj
    by_cases e : j = 0
    · subst e; exact ⟨1, by omega, by rw [exA_zero, exA_zero]; rfl⟩
    · have hu := H.up j (by omega) hj
      have e2 : (ndA D j).up = (ndA C j).up := by rw [M.hat j hj]
      obtain ⟨c, hc, h⟩ := ih (ndA C j).up.toNat (by omega) (by omega)
      have hw := H.w j hj
      have hk := M.hk
      have hD := M.hD
      have hs := rsS_bd H (i := (ndA C j).up)
      rw [exA_eq H' (by omega) (by omega), exA_eq H (by omega) hj, e2, h, M.hat j hj]
      by_cases hS : rsS C (ndA C j).up = 0
      · rw [if_pos hS, if_pos (by rw [mu_S0 M]; exact hS)]
        exact ⟨1, by omega, rfl⟩
      · rw [if_neg hS, if_neg (by rw [mu_S0 M]; exact hS)]
        refine ⟨c * k.toNat, Nat.mul_pos hc (by omega), ?_⟩
        have t1 : ((ndA C j).w * k).toNat = (ndA C j).w.toNat * k.toNat := Int.toNat_mul (by omega) (by omega)
        have t2 : (rsS D (ndA C j).up).toNat = (rsS C (ndA C j).up).toNat * k.toNat := by rw [mu_S M]; exact Int.toNat_mul (by omega) (by omega)
        simp only [t1, t2]
        rw [Prod.mk.injEq]
        constructor <;> ac_rfl
theorem mu_red (H : CuOk C) (H' : CuOk D) {j : Nat} (hj : j < C.length) : red (exA D j).1 (exA D j).2 = red (exA C j).1 (exA C j).2 := by
  obtain ⟨c, hc, h⟩ := mu_exA M H H' j hj
  rw [h]; exact red_mul hc
end
end Go.Proofs.Ytaeijjfgfenfhaa.S

