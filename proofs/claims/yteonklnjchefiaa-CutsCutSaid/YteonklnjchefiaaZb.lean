/-
The specification: Weight, Lost, sums of numbers times weights, Whole, Price and Rank.
-/
import Derived.Test.YteonklnjchefiaaZa
namespace Go.Proofs.Yteonklnjchefiaa.S
open Go Go.Am Go.Proofs.Yteonklnjchefiaa.T
set_option maxRecDepth 100000
set_option linter.unusedSimpArgs false
set_option linter.unusedVariables false

section
variable {t : List Pt} {v : AV}
def knE (t : List Pt) (q : Bool) : Int := if tval t then (if q then (if is1 t then 0 else 3) else 1) else 70
theorem s91 (H : TbOk t v) (q : Bool) (st : Bool) : Iso E 91 [v, Bo q] st = some (I (knE t q)) := by
  have g := fun st => s123 H q st
  refine Iso_of (es _ _ _ _) e91 ?_
  simp only [f91, knE]
  cases hv : tval t
  · simp only [hv, aC, Bool.false_eq_true, if_false] at g
    simp (disch := first | assumption | omega | (simp only [az]; done)) only [ru, eq_self, if_true, if_false, BEq.rfl, binI, AO.row?, splice, fillL, mmAll, loadV, storeV, zeros, Am.rowAt, Am.part, addOff, Nat.reduceAdd, Nat.reduceMul, Nat.reduceLeDiff, Nat.reduceSub, Nat.reduceLT, Int.reduceEq, Int.reduceLT, Int.reduceLE, Int.reduceGT, Int.reduceGE, Int.reduceAdd, Int.reduceSub, Int.reduceMul, Int.reduceNeg, Int.reduceToNat, reduceCtorEq, reduceIte, lenV_sl H.i, elem_pt H.i, view_sl H.i, scalar_sl H.i, cells_sl H.i, pure_sl H.i, Int.toNat_natCast, g, decide_true, decide_false, Bool.false_eq_true]
    done
  have g2 := fun st => s34 H (tval_W hv) st
  cases q
  · simp only [hv, aC, Bool.false_eq_true, if_false, if_true] at g
    simp (disch := first | assumption | omega | (simp only [az]; done)) only [ru, eq_self, if_true, if_false, BEq.rfl, binI, AO.row?, splice, fillL, mmAll, loadV, storeV, zeros, Am.rowAt, Am.part, addOff, Nat.reduceAdd, Nat.reduceMul, Nat.reduceLeDiff, Nat.reduceSub, Nat.reduceLT, Int.reduceEq, Int.reduceLT, Int.reduceLE, Int.reduceGT, Int.reduceGE, Int.reduceAdd, Int.reduceSub, Int.reduceMul, Int.reduceNeg, Int.reduceToNat, reduceCtorEq, reduceIte, lenV_sl H.i, elem_pt H.i, view_sl H.i, scalar_sl H.i, cells_sl H.i, pure_sl H.i, Int.toNat_natCast, g, decide_true, decide_false, Bool.false_eq_true]
    done
  simp only [hv, aC, if_true] at g
  cases h1 : is1 t <;> simp (disch := first | assumption | omega | (simp only [az]; done)) only [ru, eq_self, if_true, if_false, BEq.rfl, binI, AO.row?, splice, fillL, mmAll, loadV, storeV, zeros, Am.rowAt, Am.part, addOff, Nat.reduceAdd, Nat.reduceMul, Nat.reduceLeDiff, Nat.reduceSub, Nat.reduceLT, Int.reduceEq, Int.reduceLT, Int.reduceLE, Int.reduceGT, Int.reduceGE, Int.reduceAdd, Int.reduceSub, Int.reduceMul, Int.reduceNeg, Int.reduceToNat, reduceCtorEq, reduceIte, lenV_sl H.i, elem_pt H.i, view_sl H.i, scalar_sl H.i, cells_sl H.i, pure_sl H.i, Int.toNat_natCast, g, g2, h1, decide_true, decide_false, Bool.not_true, Bool.not_false, Bool.false_eq_true]
end
end Go.Proofs.Yteonklnjchefiaa.S

