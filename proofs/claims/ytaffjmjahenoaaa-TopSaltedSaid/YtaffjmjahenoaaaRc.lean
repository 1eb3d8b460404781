/-
The examples of the chapters 7 and 8: salted.
-/
import Derived.Test.YtaffjmjahenoaaaC2
import Derived.Test.YtaffjmjahenoaaaRb
namespace Go.Proofs.Ytaffjmjahenoaaa.S
open Go Go.Am Go.Proofs.Ytaffjmjahenoaaa.T
set_option maxRecDepth 100000
set_option linter.unusedSimpArgs false
set_option linter.unusedVariables false

set_option maxHeartbeats 4000000 in
theorem sSalted (st : Bool) : Iso E 9 [] st = some (Bo true) := by
  have i4 : inR 4 0 (exT.length - 1) = true := rfl
  have n4 : (4 : Int).toNat = 4 := rfl
  have a1 : ∀ st, Iso E 10 [exTv, I 4] st = some (.tup [.agg [I 0, I 6], I 0]) := fun st => by
    rw [s32 exT_ok]; simp only [askR, exT_v, i4, n4, if_true, btw, exT_1, ex_w.1, ex_w.2]
  have V : IsSl 1 A.intL [0, 0, 1] (.cs 1 3 [I 0, I 0, I 1]) := .inl rfl
  have a2 := fun st => A.s28 V V (by decide) st
  have a3 := A.x32
  have a0 := s65
  have b0 := A.s64
  simp only [A.hsV] at a3 b0
  obtain ⟨tv, ht⟩ : ∃ tv, tv = exTv := ⟨_, rfl⟩
  obtain ⟨uv, hu⟩ : ∃ uv, uv = exUv := ⟨_, rfl⟩
  rw [← ht] at a1 a0
  rw [← hu] at a0
  have HT : TbOk exT tv := by rw [ht]; exact exT_ok
  have HU : IsSl 6 Pt.e exU uv := by rw [hu]; exact slV_is
  simp only [A.exK, A.exP] at a3 b0
  refine Iso_of (es _ _ _ _) e9 ?_
  simp only [f9]
  simp (disch := first | assumption | omega | (simp only [az]; done)) only [ru, eq_self, if_true, if_false, BEq.rfl, binI, AO.row?, splice, fillL, mmAll, loadV, storeV, zeros, Am.rowAt, Am.part, addOff, Nat.reduceAdd, Nat.reduceMul, Nat.reduceLeDiff, Nat.reduceSub, Nat.reduceLT, Int.reduceEq, Int.reduceLT, Int.reduceLE, Int.reduceGT, Int.reduceGE, Int.reduceAdd, Int.reduceSub, Int.reduceMul, Int.reduceNeg, Int.reduceToNat, reduceCtorEq, reduceIte, lenV_sl HT.i, elem_pt HT.i, view_sl HT.i, scalar_sl HT.i, cells_sl HT.i, pure_sl HT.i, Int.toNat_natCast, lenV_sl HU, view_sl HU, scalar_sl HU, cells_sl HU, pure_sl HU, a0, a1, a2, a3, b0, exOp_litS, AV.pureV.go, AV.pureV, Bool.and_true, decide_true, pex_eqS, gUn]
  done
end Go.Proofs.Ytaffjmjahenoaaa.S
