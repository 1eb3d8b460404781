/-
Functions of both sides of stage 2, one after another (A2).
-/
import Derived.Test.YtmldjpeiokciiaaA1

/-
Lists of numbers that lie in a heap, and heaps that come out of one another.
-/
namespace Go.Proofs.Ytmldjpeiokciiaa.A
open Go Go.Am Go.Proofs.Ytmldjpeiokciiaa.T
set_option maxRecDepth 100000
set_option linter.unusedSimpArgs false
set_option linter.unusedVariables false

section
variable {α : Type} {l m : List α} {j : Nat} {x : α}
end

end Go.Proofs.Ytmldjpeiokciiaa.A

/-
The roughest and the calmest truth of a net, as the program lays them.
-/
namespace Go.Proofs.Ytmldjpeiokciiaa.A
open Go Go.Am Go.Proofs.Ytmldjpeiokciiaa.T
set_option maxRecDepth 100000
set_option linter.unusedSimpArgs false
set_option linter.unusedVariables false



end Go.Proofs.Ytmldjpeiokciiaa.A

/-
What is so in all truths: Drag, Safe and Spare.
-/
namespace Go.Proofs.Ytmldjpeiokciiaa.A
open Go Go.Am Go.Proofs.Ytmldjpeiokciiaa.T
set_option maxRecDepth 100000
set_option linter.unusedSimpArgs false
set_option linter.unusedVariables false



/-- nothing drags when all lie -/
def still (n : Net) (t : Tru) : Bool := decide (((lst n (stepS n t none6)).length : Int) = 0)
end Go.Proofs.Ytmldjpeiokciiaa.A

/-
In a calmer truth no more drags; the law of stage 2 on each truth.
-/
namespace Go.Proofs.Ytmldjpeiokciiaa.A
open Go Go.Am Go.Proofs.Ytmldjpeiokciiaa.T
set_option maxRecDepth 100000
set_option linter.unusedSimpArgs false
set_option linter.unusedVariables false



/-- the first truth is calmer -/
structure Calmer (n : Net) (t t' : Tru) : Prop where
  w : t.wind ≤ t'.wind
  c : t.cur ≤ t'.cur
  g : ∀ i, i < n.grips.length → t'.grips.getD i default ≤ t.grips.getD i default

section
variable {n : Net} {t t' : Tru}
theorem ld_calmer (G : Fair n t) (C : Calmer n t t') {i : Nat} (hi : i < n.walls.length) : ldI n t i ≤ ldI n t' i := by
  have b := (netB G.v).w _ (getD_mem (l := n.walls) hi)
  have h1 := Int.mul_le_mul_of_nonneg_left C.w b.a0
  have h2 := Int.mul_le_mul_of_nonneg_left C.c b.b0
  unfold ldI; omega
theorem can_calmer (G : Fair n t) (C : Calmer n t t') {i : Nat} (hi : i < n.ancs.length) : canI n t' i ≤ canI n t i := by
  have b := (netB G.v).a _ (getD_mem (l := n.ancs) hi)
  have h := C.g (n.ancs.getD i default).b.toNat (by omega)
  unfold canI
  exact Int.mul_le_mul_of_nonneg_left h (by omega)
theorem twice_le {d : Bool} {x y : Int} (h : x ≤ y) : twice d x ≤ twice d y := by
  cases d <;> simp [twice] <;> omega
theorem bears_calmer (G : Fair n t) (C : Calmer n t t') {i : Nat} (hi : i < n.ancs.length) (D : Nat → Bool) : bearsI n t i D ≤ bearsI n t' i D := by
  have lw := (netB G.v).lw
  unfold bearsI
  apply Int.add_le_add
  · split
    · exact twice_le (ld_calmer G C (by omega))
    · exact Int.le_refl _
  · split
    · exact twice_le (ld_calmer G C (by omega))
    · exact Int.le_refl _
theorem drg_calmer (G : Fair n t) (C : Calmer n t t') {i : Nat} (hi : i < n.ancs.length) {D : Nat → Bool} (h : drg n t i D = true) : drg n t' i D = true := by
  have h1 := can_calmer G C hi
  have h2 := bears_calmer G C hi D
  simp only [drg, decide_eq_true_eq] at h ⊢
  omega
theorem lfp_calmer (G : Fair n t) (G' : Fair n t') (C : Calmer n t t') : Le n (lfp n t none6) (lfp n t' none6) :=
  (none_lfp G).least _ (fun i hi h => (none_lfp G').cl i hi (drg_calmer G C hi h)) (none_lfp G').le
end

end Go.Proofs.Ytmldjpeiokciiaa.A

/-
The least wind in which something drags: Wind and Storm.
-/
namespace Go.Proofs.Ytmldjpeiokciiaa.A
open Go Go.Am Go.Proofs.Ytmldjpeiokciiaa.T
set_option maxRecDepth 100000
set_option linter.unusedSimpArgs false
set_option linter.unusedVariables false



/-- a truth in another wind -/
abbrev inW (t : Tru) (x : Int) : Tru := ⟨x, t.cur, t.grips⟩
def lwGo (n : Net) (t : Tru) : Nat → Nat → Nat
  | 0, i => i
  | f + 1, i => if still n (inW t i) then lwGo n t f (i + 1) else i
/-- the least wind in which something drags, or 21 -/
def lw (n : Net) (t : Tru) : Nat := lwGo n t 21 0
/-! winds and truths -/
end Go.Proofs.Ytmldjpeiokciiaa.A

