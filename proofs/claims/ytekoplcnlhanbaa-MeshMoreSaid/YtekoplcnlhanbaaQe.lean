/-
The law of one mender more, and of the pair that costs most.
-/
import Derived.Test.YtekoplcnlhanbaaS3
import Derived.Test.YtekoplcnlhanbaaNb
namespace Go.Proofs.Ytekoplcnlhanbaa.S
open Go Go.Am Go.Proofs.Ytekoplcnlhanbaa.T
set_option maxRecDepth 100000
set_option linter.unusedSimpArgs false
set_option linter.unusedVariables false

section
variable {n : Net} {g p : AV}
theorem morR_ex : ∃ y x : Int, morR n = .tup [I y, I x] := by
  unfold morR
  split
  · split
    · exact ⟨_, _, rfl⟩
    · exact ⟨_, _, rfl⟩
  · exact ⟨_, _, rfl⟩
theorem ropR_ex : ∃ y x : Int, ropR n = .tup [I y, I x] := by
  unfold ropR
  split
  · split
    · exact ⟨_, _, rfl⟩
    · exact ⟨_, _, rfl⟩
  · exact ⟨_, _, rfl⟩
set_option maxHeartbeats 2000000 in
theorem s7 (H0 : NetIn n g p) (st : Bool) : Iso E 7 [netV n g p] st = some (Bo true) := by
  have g0 := fun st => s28 H0 5 st
  refine Iso_of (es _ _ _ _) e7 ?_
  simp only [f7, netV] at g0 ⊢
  cases hf : farB n 5
  case true => simp (disch := first | assumption | omega | (simp only [az]; done)) only [ru, eq_self, if_true, if_false, BEq.rfl, binI, AO.row?, splice, fillL, mmAll, loadV, storeV, zeros, Am.rowAt, Am.part, addOff, Nat.reduceAdd, Nat.reduceMul, Nat.reduceLeDiff, Nat.reduceSub, Nat.reduceLT, Int.reduceEq, Int.reduceLT, Int.reduceLE, Int.reduceGT, Int.reduceGE, Int.reduceAdd, Int.reduceSub, Int.reduceMul, Int.reduceNeg, Int.reduceToNat, reduceCtorEq, reduceIte, lenV_sl H0.g, view_sl H0.g, scalar_sl H0.g, cells_sl H0.g, pure_sl H0.g, lenV_sl H0.p, view_sl H0.p, scalar_sl H0.p, cells_sl H0.p, pure_sl H0.p, g0, hf, gUn, s15]
  have H := far_no H0 hf
  have c16 := fun st => s16 H st
  obtain ⟨g', hg'⟩ : ∃ q, q = slV 4 Hl.e n.hs := ⟨_, rfl⟩
  obtain ⟨p', hp'⟩ : ∃ q, q = slV 2 Pr.e n.ps := ⟨_, rfl⟩
  have H2 := cp_ok H
  rw [← hg', ← hp'] at H2
  have a1 := fun st => s45 H2 st
  have a2 := fun st => s46 H st
  have a3 := fun st => s47 H2 st
  have a4 := fun st => s48 H st
  have a9 := fun st => s27 H2 H st
  obtain ⟨y1, x1, r1⟩ := morR_ex (n := n)
  obtain ⟨y2, x2, r2⟩ := ropR_ex (n := n)
  simp only [cpN, ← hg', ← hp', netV, r1, r2] at c16 a1 a2 a3 a4 a9
  simp (disch := first | assumption | omega | (simp only [az]; done)) only [ru, eq_self, if_true, if_false, BEq.rfl, binI, AO.row?, splice, fillL, mmAll, loadV, storeV, zeros, Am.rowAt, Am.part, addOff, Nat.reduceAdd, Nat.reduceMul, Nat.reduceLeDiff, Nat.reduceSub, Nat.reduceLT, Int.reduceEq, Int.reduceLT, Int.reduceLE, Int.reduceGT, Int.reduceGE, Int.reduceAdd, Int.reduceSub, Int.reduceMul, Int.reduceNeg, Int.reduceToNat, reduceCtorEq, reduceIte, lenV_sl H.g, view_sl H.g, scalar_sl H.g, cells_sl H.g, pure_sl H.g, lenV_sl H.p, view_sl H.p, scalar_sl H.p, cells_sl H.p, pure_sl H.p, lenV_sl H2.g, view_sl H2.g, scalar_sl H2.g, cells_sl H2.g, pure_sl H2.g, lenV_sl H2.p, view_sl H2.p, scalar_sl H2.p, cells_sl H2.p, pure_sl H2.p, g0, hf, c16, a1, a2, a3, a4, a9, gUn, decide_true, decide_false, bne_self_eq_false, beq_self_eq_true, s15]
  done
end
end Go.Proofs.Ytekoplcnlhanbaa.S

