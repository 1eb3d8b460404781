/-
The functions of both sides of stage 1, one after another (S4).
-/
import Derived.Test.YtjaaefdhdggnkaaS3

/-
The laws of stage 1 on Fish and Whole, and on Came and Passed.
-/
namespace Go.Proofs.Ytjaaefdhdggnkaa.S
open Go Go.Am Go.Proofs.Ytjaaefdhdggnkaa.T
set_option maxRecDepth 100000
set_option linter.unusedSimpArgs false
set_option linter.unusedVariables false

theorem s12 {t : Trap} {o w : AV} (H0 : TrIn t o w) (a b : Int) : Iso E 12 [trV t o w, I a, I b] false = some (Bo true) := by
  have ho := H0.o
  have hw := H0.w
  have c53 := fun st => s53 H0 st
  have d19 := s19
  cases hg : t.huge
  case true =>
    refine Iso_of (es _ _ _ _) e12 ?_
    simp only [f12, trV, hg] at c53 ⊢
    simp (disch := first | assumption | omega | (simp only [az]; done)) only [ru, eq_self, if_true, if_false, BEq.rfl, binI, AO.row?, splice, fillL, mmAll, loadV, storeV, zeros, Am.rowAt, Am.part, addOff, Nat.reduceAdd, Nat.reduceMul, Nat.reduceLeDiff, Nat.reduceSub, Nat.reduceLT, Int.reduceEq, Int.reduceLT, Int.reduceLE, Int.reduceGT, Int.reduceGE, Int.reduceAdd, Int.reduceSub, Int.reduceMul, Int.reduceNeg, Int.reduceToNat, reduceCtorEq, reduceIte, lenV_sl ho, elem_sl Ls.el ho, view_sl ho, scalar_sl ho, cells_sl ho, pure_sl ho, lenV_sl hw, elem_sl Wd.el hw, view_sl hw, scalar_sl hw, cells_sl hw, pure_sl hw, c53, d19]
  have H := H0.ok hg
  have HC := H.cpv
  have c41 := fun st => s41 H st
  obtain ⟨l1, h1, e1, c32, A1⟩ := s32 HC a b
  obtain ⟨l2, h2, e2, c60, A2⟩ := s60 H a b
  obtain ⟨rfl, rfl, rfl⟩ := (cp_ans A1).uniq A2
  obtain ⟨l3, h3, e3, c23, A3⟩ := s23 HC a
  obtain ⟨l4, h4, e4, c61, A4⟩ := s61 H a
  obtain ⟨rfl, rfl, rfl⟩ := (cp_ans A3).uniq A4
  have c58 := fun st => s58 HC H st
  have hq := HC.o
  have hq' := HC.w
  simp only [cpV] at c41
  obtain ⟨o', eo⟩ : ∃ o', o' = cpO t.op := ⟨_, rfl⟩
  obtain ⟨w', ew⟩ : ∃ w', w' = slV 4 Wd.e t.ws := ⟨_, rfl⟩
  rw [← eo] at hq
  rw [← ew] at hq'
  refine Iso_of (es _ _ _ _) e12 ?_
  simp only [f12, trV, hg, ← eo, ← ew, Trap.cp] at c53 c41 c32 c60 c23 c61 c58 hq hq' ⊢
  simp (disch := first | assumption | omega | (simp only [az]; done)) only [ru, eq_self, if_true, if_false, BEq.rfl, binI, AO.row?, splice, fillL, mmAll, loadV, storeV, zeros, Am.rowAt, Am.part, addOff, Nat.reduceAdd, Nat.reduceMul, Nat.reduceLeDiff, Nat.reduceSub, Nat.reduceLT, Int.reduceEq, Int.reduceLT, Int.reduceLE, Int.reduceGT, Int.reduceGE, Int.reduceAdd, Int.reduceSub, Int.reduceMul, Int.reduceNeg, Int.reduceToNat, reduceCtorEq, reduceIte, lenV_sl ho, elem_sl Ls.el ho, view_sl ho, scalar_sl ho, cells_sl ho, pure_sl ho, lenV_sl hw, elem_sl Wd.el hw, view_sl hw, scalar_sl hw, cells_sl hw, pure_sl hw, lenV_sl hq, elem_sl Ls.el hq, view_sl hq, scalar_sl hq, cells_sl hq, pure_sl hq, lenV_sl hq', elem_sl Wd.el hq', view_sl hq', scalar_sl hq', cells_sl hq', pure_sl hq', c53, c41, c32, c60, c23, c61, c58, d19]

theorem s13 {t : Trap} {o w : AV} (H0 : TrIn t o w) (a b : Int) : Iso E 13 [trV t o w, I a, I b] false = some (Bo true) := by
  have ho := H0.o
  have hw := H0.w
  have c53 := fun st => s53 H0 st
  have d19 := s19
  cases hg : t.huge
  case true =>
    refine Iso_of (es _ _ _ _) e13 ?_
    simp only [f13, trV, hg] at c53 ⊢
    simp (disch := first | assumption | omega | (simp only [az]; done)) only [ru, eq_self, if_true, if_false, BEq.rfl, binI, AO.row?, splice, fillL, mmAll, loadV, storeV, zeros, Am.rowAt, Am.part, addOff, Nat.reduceAdd, Nat.reduceMul, Nat.reduceLeDiff, Nat.reduceSub, Nat.reduceLT, Int.reduceEq, Int.reduceLT, Int.reduceLE, Int.reduceGT, Int.reduceGE, Int.reduceAdd, Int.reduceSub, Int.reduceMul, Int.reduceNeg, Int.reduceToNat, reduceCtorEq, reduceIte, lenV_sl ho, elem_sl Ls.el ho, view_sl ho, scalar_sl ho, cells_sl ho, pure_sl ho, lenV_sl hw, elem_sl Wd.el hw, view_sl hw, scalar_sl hw, cells_sl hw, pure_sl hw, c53, d19]
  have H := H0.ok hg
  have HC := H.cpv
  have c41 := fun st => s41 H st
  obtain ⟨l1, h1, e1, c24, A1⟩ := s24 HC a b
  obtain ⟨l2, h2, e2, c62, A2⟩ := s62 H a b
  obtain ⟨rfl, rfl, rfl⟩ := (cp_ans A1).uniq A2
  obtain ⟨l3, h3, e3, c27, A3⟩ := s27 HC a b
  obtain ⟨l4, h4, e4, c63, A4⟩ := s63 H a b
  have A3' := cp_ans A3
  rw [cp_step] at A3'
  obtain ⟨rfl, rfl, rfl⟩ := A3'.uniq A4
  have c58 := fun st => s58 HC H st
  have hq := HC.o
  have hq' := HC.w
  simp only [cpV] at c41
  obtain ⟨o', eo⟩ : ∃ o', o' = cpO t.op := ⟨_, rfl⟩
  obtain ⟨w', ew⟩ : ∃ w', w' = slV 4 Wd.e t.ws := ⟨_, rfl⟩
  rw [← eo] at hq
  rw [← ew] at hq'
  refine Iso_of (es _ _ _ _) e13 ?_
  simp only [f13, trV, hg, ← eo, ← ew, Trap.cp] at c53 c41 c24 c62 c27 c63 c58 hq hq' ⊢
  simp (disch := first | assumption | omega | (simp only [az]; done)) only [ru, eq_self, if_true, if_false, BEq.rfl, binI, AO.row?, splice, fillL, mmAll, loadV, storeV, zeros, Am.rowAt, Am.part, addOff, Nat.reduceAdd, Nat.reduceMul, Nat.reduceLeDiff, Nat.reduceSub, Nat.reduceLT, Int.reduceEq, Int.reduceLT, Int.reduceLE, Int.reduceGT, Int.reduceGE, Int.reduceAdd, Int.reduceSub, Int.reduceMul, Int.reduceNeg, Int.reduceToNat, reduceCtorEq, reduceIte, lenV_sl ho, elem_sl Ls.el ho, view_sl ho, scalar_sl ho, cells_sl ho, pure_sl ho, lenV_sl hw, elem_sl Wd.el hw, view_sl hw, scalar_sl hw, cells_sl hw, pure_sl hw, lenV_sl hq, elem_sl Ls.el hq, view_sl hq, scalar_sl hq, cells_sl hq, pure_sl hq, lenV_sl hq', elem_sl Wd.el hq', view_sl hq', scalar_sl hq', cells_sl hq', pure_sl hq', c53, c41, c24, c62, c27, c63, c58, d19]
end Go.Proofs.Ytjaaefdhdggnkaa.S

