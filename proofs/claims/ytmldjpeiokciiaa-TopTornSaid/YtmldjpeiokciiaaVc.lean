/-
The examples of the chapters 2 and 4: torn.
-/
import Derived.Test.YtmldjpeiokciiaaTab
import Derived.Test.YtmldjpeiokciiaaAmY
namespace Go.Proofs.Ytmldjpeiokciiaa.S
open Go Go.Am Go.Proofs.Ytmldjpeiokciiaa.T
set_option maxRecDepth 100000

theorem Iso_run {n f : Nat} {args : List AV} {st : Bool} {v : AV} (h : ((callN E n (.fn f) args [] 0).bind fun y => view st y.2 8 y.1) = some v) : Iso E f args st = some v := by
  cases hc : callN E n (.fn f) args [] 0 with
  | none => rw [hc] at h; cases h
  | some y =>
    rw [hc] at h
    obtain ⟨r, h'⟩ := y
    have := R_run hc
    simp only [Iso, this]
    exact h
theorem sTorn : Iso E 8 [] false = some (Bo true) := Iso_run (n := 60) (by kernel_rfl)
end Go.Proofs.Ytmldjpeiokciiaa.S
