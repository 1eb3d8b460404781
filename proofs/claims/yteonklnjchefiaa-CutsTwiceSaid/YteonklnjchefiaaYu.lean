/-
Two spans together.
-/
import Derived.Test.YteonklnjchefiaaS3
namespace Go.Proofs.Yteonklnjchefiaa.S
open Go Go.Am Go.Proofs.Yteonklnjchefiaa.T
set_option maxRecDepth 100000
set_option linter.unusedSimpArgs false
set_option linter.unusedVariables false

set_option maxHeartbeats 1000000 in
theorem s49 (a b c d e f : Int) (ha : 0 ≤ a ∧ 0 ≤ c) (hb : b < 1000000 ∧ d < 1000000) (hs : a ≤ b ∧ c ≤ d) (he : e = a + c) (hf : f = b + d) (st : Bool) : Iso E 49 [.agg [I a, I b], .agg [I c, I d], .agg [I e, I f]] st = some (Bo true) := by
  subst he hf
  have m1 : mmx false a c ≥ 0 := by unfold mmx; (repeat' split) <;> first | omega | contradiction
  have m2 : mmx true b d < 1000000 := by unfold mmx; (repeat' split) <;> first | omega | contradiction
  refine Iso_of (es _ _ _ _) e49 ?_
  simp only [f49]
  simp (disch := first | assumption | omega | (simp only [az]; done)) only [ru, eq_self, if_true, if_false, BEq.rfl, binI, AO.row?, splice, fillL, mmAll, loadV, storeV, zeros, Am.rowAt, Am.part, addOff, Nat.reduceAdd, Nat.reduceMul, Nat.reduceLeDiff, Nat.reduceSub, Nat.reduceLT, Int.reduceEq, Int.reduceLT, Int.reduceLE, Int.reduceGT, Int.reduceGE, Int.reduceAdd, Int.reduceSub, Int.reduceMul, Int.reduceNeg, Int.reduceToNat, reduceCtorEq, reduceIte, m1, m2, gUn, decide_true]
  done
end Go.Proofs.Yteonklnjchefiaa.S

