/-
Gets, Keeps and Split.
-/
import Derived.Test.YtaeijjfgfenfhaaNw
namespace Go.Proofs.Ytaeijjfgfenfhaa.S
open Go Go.Am Go.Proofs.Ytaeijjfgfenfhaa.T
set_option maxRecDepth 100000
set_option linter.unusedSimpArgs false
set_option linter.unusedVariables false

section
variable {C : List Nd} {v : AV} (hv : IsSl 3 Nd.e C v)
include hv
set_option maxHeartbeats 1000000 in
theorem l3 (i p : Int) : Iso E 3 [cuV v, I i, I p] false = some (Bo true) := by
  refine Iso_of (es _ _ _ _) e3 ?_
  simp only [f3]
  cases hf : far C
  case true => simp (disch := first | assumption | omega | (simp only [az]; done)) only [ru, eq_self, if_true, if_false, BEq.rfl, binI, AO.row?, splice, fillL, mmAll, loadV, storeV, zeros, Am.rowAt, Am.part, addOff, Nat.reduceAdd, Nat.reduceMul, Nat.reduceLeDiff, Nat.reduceSub, Nat.reduceLT, Int.reduceEq, Int.reduceLT, Int.reduceLE, Int.reduceGT, Int.reduceGE, Int.reduceAdd, Int.reduceSub, Int.reduceMul, Int.reduceNeg, Int.reduceToNat, reduceCtorEq, reduceIte, lenV_sl hv, view_sl hv, scalar_sl hv, cells_sl hv, pure_sl hv, t16 hv, hf, t17]
  have hl : C.length ≤ 1000 := by simp only [far, decide_eq_false_iff_not] at hf; omega
  obtain ⟨W, hW⟩ : ∃ W, W = slV 3 Nd.e C := ⟨_, rfl⟩
  have V : IsSl 3 Nd.e C W := by rw [hW]; exact slV_is
  have a18 := fun st => t18 hv hl st
  rw [← hW] at a18
  have a21 := t21 V hl p
  have a22 := fun st => t22 hv hl p st
  have a23 := t23 V hl p
  have a24 := t24 hv hl p
  have a25 := t25 V hl i p
  have a26 := t26 hv hl i p
  unfold ansL at a21 a22 a23 a24
  unfold ansS at a25 a26
  have nn : ∀ x : Int, (x != x) = false := fun x => by simp
  have ne : ∀ x : Int, (x == x) = true := fun x => by simp
  obtain ⟨e1, he1⟩ : ∃ e, e = fitE C (inR p 0 400) [] := ⟨_, rfl⟩
  obtain ⟨e2, he2⟩ : ∃ e, e = fitE C (inR i 0 (C.length - 1) && inR p 0 400) [] := ⟨_, rfl⟩
  rw [← he1] at a21 a22 a23 a24
  rw [← he2] at a25 a26
  have m1 : (if e1 = 0 then gL C p else []).length ≤ 100000 := by split <;> simp [gL]; omega
  have m2 : (if e1 = 0 then kL C p else []).length ≤ 100000 := by split <;> simp [kL]; omega
  have m3 : (if e2 = 0 then sL C i p else []).length ≤ 100000 := by
    split
    · have : (sL C i p).length ≤ C.length := by unfold sL; rw [List.length_map]; unfold bl; exact Nat.le_trans (List.length_filter_le _ _) (by simp)
      omega
    · simp
  obtain ⟨l1, h1⟩ : ∃ l, l = if e1 = 0 then gL C p else [] := ⟨_, rfl⟩
  obtain ⟨l2, h2⟩ : ∃ l, l = if e1 = 0 then kL C p else [] := ⟨_, rfl⟩
  obtain ⟨l3, h3⟩ : ∃ l, l = if e2 = 0 then sL C i p else [] := ⟨_, rfl⟩
  obtain ⟨k2, hk2⟩ : ∃ k, k = if e2 = 0 then spk C i p else 0 := ⟨_, rfl⟩
  rw [← h1] at a21 a22 m1
  rw [← h2] at a23 a24 m2
  rw [← h3, ← hk2] at a25 a26
  rw [← h3] at m3
  have r1 := resL_is l1
  have r2 := resL_is l2
  have r3 := resL_is l3
  obtain ⟨w1, hw1⟩ : ∃ w, w = resL l1 := ⟨_, rfl⟩
  obtain ⟨w2, hw2⟩ : ∃ w, w = resL l2 := ⟨_, rfl⟩
  obtain ⟨w3, hw3⟩ : ∃ w, w = resL l3 := ⟨_, rfl⟩
  rw [← hw1] at r1 a21 a22
  rw [← hw2] at r2 a23 a24
  rw [← hw3] at r3 a25 a26
  have b1 := fun st => t27' r1 r1 m1 st
  have b2 := fun st => t27' r2 r2 m2 st
  have b3 := fun st => t27' r3 r3 m3 st
  have a28 := fun st => t28 V hv hl st
  clear he1 he2 h1 h2 h3 hk2 hw1 hw2 hw3 hW
  simp (disch := first | assumption | omega | (simp only [az]; done)) only [ru, eq_self, if_true, if_false, BEq.rfl, binI, AO.row?, splice, fillL, mmAll, loadV, storeV, zeros, Am.rowAt, Am.part, addOff, Nat.reduceAdd, Nat.reduceMul, Nat.reduceLeDiff, Nat.reduceSub, Nat.reduceLT, Int.reduceEq, Int.reduceLT, Int.reduceLE, Int.reduceGT, Int.reduceGE, Int.reduceAdd, Int.reduceSub, Int.reduceMul, Int.reduceNeg, Int.reduceToNat, reduceCtorEq, reduceIte, lenV_sl hv, view_sl hv, scalar_sl hv, cells_sl hv, pure_sl hv, lenV_sl V, view_sl V, scalar_sl V, cells_sl V, pure_sl V, lenV_sl r1, view_sl r1, scalar_sl r1, cells_sl r1, pure_sl r1, lenV_sl r2, view_sl r2, scalar_sl r2, cells_sl r2, pure_sl r2, lenV_sl r3, view_sl r3, scalar_sl r3, cells_sl r3, pure_sl r3, t16 hv, hf, a18, t19 V hl, t20 hv hl, nn, ne, a21, a22, a23, a24, a25, a26, b1, b2, b3, a28, gUn, t17]
end
end Go.Proofs.Ytaeijjfgfenfhaa.S

