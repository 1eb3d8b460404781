/-
One weight alone, one waste alone: what truths are left (for the laws that compare).
-/
import Derived.Test.YteonklnjchefiaaYq
namespace Go.Proofs.Yteonklnjchefiaa.S
open Go Go.Am Go.Proofs.Yteonklnjchefiaa.T
set_option maxRecDepth 100000
set_option linter.unusedSimpArgs false
set_option linter.unusedVariables false

section
variable {t : List Pt}
/-- the ends of what a search finds from one number to another one -/
structure Fnd (q : Int → Bool) (a b : Int) (i x y : Int) : Prop where
  all : ∀ n, a ≤ n → n < i → q n = true → x ≤ n ∧ n ≤ y
  lo : x = 30 ∨ (a ≤ x ∧ x < i ∧ q x = true)
  hi : y = 0 ∨ (a ≤ y ∧ y < i ∧ q y = true)
  rng : 0 ≤ x ∧ x ≤ 30 ∧ 0 ≤ y ∧ y ≤ 30
theorem Fnd.zero {q : Int → Bool} {a b : Int} : Fnd q a b a 30 0 := ⟨fun n h1 h2 => by omega, .inl rfl, .inl rfl, by omega⟩
theorem Fnd.no {q : Int → Bool} {a b i lo hi : Int} (F : Fnd q a b i lo hi) (hq : q i = false) : Fnd q a b (i + 1) lo hi := by
  refine ⟨fun n h1 h2 h3 => ?_, ?_, ?_, F.rng⟩
  · by_cases e : n = i
    · subst e; rw [hq] at h3; cases h3
    · exact F.all n h1 (by omega) h3
  · rcases F.lo with h | ⟨h1, h2, h3⟩
    · exact .inl h
    · exact .inr ⟨h1, by omega, h3⟩
  · rcases F.hi with h | ⟨h1, h2, h3⟩
    · exact .inl h
    · exact .inr ⟨h1, by omega, h3⟩
theorem Fnd.fin {q : Int → Bool} {a b lo hi x y : Int} (F : Fnd q a b (b + 1) lo hi) (hx : a ≤ x ∧ x ≤ b ∧ q x = true) (hy : a ≤ y ∧ y ≤ b ∧ q y = true) (hq : ∀ n, a ≤ n → n ≤ b → q n = true → x ≤ n ∧ n ≤ y) (h0 : 0 ≤ x ∧ y ≤ 30) : lo = x ∧ hi = y := by
  have l1 := F.all x hx.1 (by omega) hx.2.2
  have l2 := F.all y hy.1 (by omega) hy.2.2
  have m := hq x hx.1 hx.2.1 hx.2.2
  constructor
  · rcases F.lo with h | ⟨h1, h2, h3⟩
    · omega
    · have := hq lo h1 (by omega) h3; omega
  · rcases F.hi with h | ⟨h1, h2, h3⟩
    · omega
    · have := hq hi h1 (by omega) h3; omega
end
end Go.Proofs.Yteonklnjchefiaa.S

