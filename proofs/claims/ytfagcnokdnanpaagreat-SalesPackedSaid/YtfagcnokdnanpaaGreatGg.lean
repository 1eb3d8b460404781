/-
SalesPays: the specification's Pays, Paid, On and When, and the law.
-/
import Derived.Test.YtfagcnokdnanpaaGreatGf
import Derived.Test.YtfagcnokdnanpaaGreatFz
namespace Go.Proofs.YtfagcnokdnanpaaGreat.S
open Go Go.Am Go.Proofs.YtfagcnokdnanpaaGreat.T
set_option maxRecDepth 100000
set_option linter.unusedSimpArgs false
set_option linter.unusedVariables false
theorem fsB_spec {v : Nat → Int} (h0 : ∀ i, 0 ≤ v i) : ∀ n : Nat, ∃ j : Nat, (fsB v (n + 1)).1 = j ∧ j < n + 1 ∧ (fsB v (n + 1)).2 = v j ∧ (∀ i, i < n + 1 → v i ≤ v j) ∧ ∀ i, i < j → v i < v j
  | 0 => by
    have := h0 0
    have e : fsB v 1 = if (-1 : Int) < v 0 then (((0 : Nat) : Int), v 0) else (0, -1) := rfl
    rw [if_pos (by omega)] at e
    rw [Nat.zero_add, e]
    exact ⟨0, rfl, by omega, rfl, fun i hi => by rw [show i = 0 by omega]; exact Int.le_refl _, fun i hi => by omega⟩
  | n + 1 => by
    obtain ⟨j, h1, h2, h3, h4, h5⟩ := fsB_spec h0 n
    have e : fsB v (n + 1 + 1) = if (fsB v (n + 1)).2 < v (n + 1) then (((n + 1 : Nat) : Int), v (n + 1)) else fsB v (n + 1) := rfl
    by_cases hc : (fsB v (n + 1)).2 < v (n + 1)
    · rw [e, if_pos hc]
      rw [h3] at hc
      refine ⟨n + 1, rfl, by omega, rfl, fun i hi => ?_, fun i hi => ?_⟩
      · rcases Nat.lt_or_ge i (n + 1) with h | h
        · have := h4 i h; omega
        · rw [show i = n + 1 by omega]; exact Int.le_refl _
      · have := h4 i hi; omega
    · rw [e, if_neg hc]
      rw [h3] at hc
      refine ⟨j, h1, by omega, h3, fun i hi => ?_, h5⟩
      rcases Nat.lt_or_ge i (n + 1) with h | h
      · exact h4 i h
      · rw [show i = n + 1 by omega]; omega
section
variable {f : Fs} {k p b pv bv : AV} {w : Nat → AV}
end
end Go.Proofs.YtfagcnokdnanpaaGreat.S
