/-
Equal tables (for the laws that compare).
-/
import Derived.Test.YteonklnjchefiaaS3
namespace Go.Proofs.Yteonklnjchefiaa.S
open Go Go.Am Go.Proofs.Yteonklnjchefiaa.T
set_option maxRecDepth 100000
set_option linter.unusedSimpArgs false
set_option linter.unusedVariables false

set_option maxHeartbeats 1000000 in
theorem s57 {l : List Pt} {v w : AV} (V : TbOk l v) (W : TbOk l w) (st : Bool) : Iso E 57 [v, w] st = some (Bo true) := by
  have n := V.n
  refine Iso_of (es _ _ _ _) e57 ?_
  simp only [f57]
  simp (disch := first | assumption | omega | (simp only [az]; done)) only [ru, eq_self, if_true, if_false, BEq.rfl, binI, AO.row?, splice, fillL, mmAll, loadV, storeV, zeros, Am.rowAt, Am.part, addOff, Nat.reduceAdd, Nat.reduceMul, Nat.reduceLeDiff, Nat.reduceSub, Nat.reduceLT, Int.reduceEq, Int.reduceLT, Int.reduceLE, Int.reduceGT, Int.reduceGE, Int.reduceAdd, Int.reduceSub, Int.reduceMul, Int.reduceNeg, Int.reduceToNat, reduceCtorEq, reduceIte, lenV_sl V.i, elem_pt V.i, view_sl V.i, scalar_sl V.i, cells_sl V.i, pure_sl V.i, Int.toNat_natCast, lenV_sl W.i, elem_pt W.i, view_sl W.i, scalar_sl W.i, cells_sl W.i, pure_sl W.i, Int.toNat_natCast, bne_self_eq_false, decide_true, Bool.not_true]
  refine G_loop_ind (fun m ts h mk => ∃ i : Nat, i ≤ l.length ∧ m = l.length - i ∧ ts.length = 26 ∧ ts.getD 0 .undef = v ∧ ts.getD 1 .undef = w ∧ ts.getD 5 .undef = I i ∧ h = [] ∧ mk = []) ?_ _ _ _ _ ⟨0, Nat.zero_le _, rfl, rfl, rfl, rfl, rfl, rfl, rfl⟩
  rintro m ts h mk ih ⟨i, hi, rfl, hl', q0, q1, q5, rfl, rfl⟩
  rw [lit_all hl']
  simp only [lit0, litS, Nat.reduceAdd, q0, q1, q5]
  simp (disch := first | assumption | omega | (simp only [az]; done)) only [ru, eq_self, if_true, if_false, BEq.rfl, binI, AO.row?, splice, fillL, mmAll, loadV, storeV, zeros, Am.rowAt, Am.part, addOff, Nat.reduceAdd, Nat.reduceMul, Nat.reduceLeDiff, Nat.reduceSub, Nat.reduceLT, Int.reduceEq, Int.reduceLT, Int.reduceLE, Int.reduceGT, Int.reduceGE, Int.reduceAdd, Int.reduceSub, Int.reduceMul, Int.reduceNeg, Int.reduceToNat, reduceCtorEq, reduceIte, lenV_sl V.i, elem_pt V.i, view_sl V.i, scalar_sl V.i, cells_sl V.i, pure_sl V.i, Int.toNat_natCast]
  by_cases hlt : (i : Int) < l.length
  case pos =>
    simp (disch := first | assumption | omega | (simp only [az]; done)) only [ru, eq_self, if_true, if_false, BEq.rfl, binI, AO.row?, splice, fillL, mmAll, loadV, storeV, zeros, Am.rowAt, Am.part, addOff, Nat.reduceAdd, Nat.reduceMul, Nat.reduceLeDiff, Nat.reduceSub, Nat.reduceLT, Int.reduceEq, Int.reduceLT, Int.reduceLE, Int.reduceGT, Int.reduceGE, Int.reduceAdd, Int.reduceSub, Int.reduceMul, Int.reduceNeg, Int.reduceToNat, reduceCtorEq, reduceIte, lenV_sl V.i, elem_pt V.i, view_sl V.i, scalar_sl V.i, cells_sl V.i, pure_sl V.i, Int.toNat_natCast, lenV_sl W.i, elem_pt W.i, view_sl W.i, scalar_sl W.i, cells_sl W.i, pure_sl W.i, Int.toNat_natCast, hlt, eqCells, decide_true, Bool.not_true, Bool.and_true, bne_self_eq_false]
    exact ih (l.length - (i + 1)) _ _ _ (by omega) ⟨i + 1, by omega, rfl, rfl, rfl, rfl, rfl, rfl, rfl⟩
  simp (disch := first | assumption | omega | (simp only [az]; done)) only [ru, eq_self, if_true, if_false, BEq.rfl, binI, AO.row?, splice, fillL, mmAll, loadV, storeV, zeros, Am.rowAt, Am.part, addOff, Nat.reduceAdd, Nat.reduceMul, Nat.reduceLeDiff, Nat.reduceSub, Nat.reduceLT, Int.reduceEq, Int.reduceLT, Int.reduceLE, Int.reduceGT, Int.reduceGE, Int.reduceAdd, Int.reduceSub, Int.reduceMul, Int.reduceNeg, Int.reduceToNat, reduceCtorEq, reduceIte, hlt]
end Go.Proofs.Yteonklnjchefiaa.S

