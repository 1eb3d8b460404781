/-
The helpers of the laws.
-/
import Derived.Test.YtekoplcnlhanbaaS3
namespace Go.Proofs.Ytekoplcnlhanbaa.S
open Go Go.Am Go.Proofs.Ytekoplcnlhanbaa.T
set_option maxRecDepth 100000
set_option linter.unusedSimpArgs false
set_option linter.unusedVariables false

theorem s15 (st : Bool) : Iso E 15 [] st = some (Bo true) := by
  obtain ⟨h', hr⟩ := R_res works_run
  simp only [Iso, hr, view_bool]
theorem s17' {l : List Int} {v : AV} (V : IsSl 1 intL l v) (hl : l.length ≤ 1000) (st : Bool) : Iso E 17 [v] st = some (slV 1 intL l) := by
  obtain ⟨w, h', A, fr, RD⟩ := cpyV (eb := 8) (lim := 0) (h := []) V intE intSc (by omega) (by omega) (Nat.zero_le _)
  simp only [apC, apN, lenS, len0, Nat.zero_add, Nat.reduceAdd, List.nil_append] at A
  have vw := RD.view intE intIv (st := st) (k := 7)
  refine Iso_of (es _ _ _ _) e17 ?_
  simp only [f17]
  simp (disch := first | assumption | omega | (simp only [az]; done)) only [ru, eq_self, if_true, if_false, BEq.rfl, binI, AO.row?, splice, fillL, mmAll, loadV, storeV, zeros, Am.rowAt, Am.part, addOff, Nat.reduceAdd, Nat.reduceMul, Nat.reduceLeDiff, Nat.reduceSub, Nat.reduceLT, Int.reduceEq, Int.reduceLT, Int.reduceLE, Int.reduceGT, Int.reduceGE, Int.reduceAdd, Int.reduceSub, Int.reduceMul, Int.reduceNeg, Int.reduceToNat, reduceCtorEq, reduceIte, lenV_sl V, view_sl V, scalar_sl V, cells_sl V, pure_sl V, A, vw]
section
variable {n : Net} {g p : AV} {l : List Int} {v : AV}
theorem huge_no (H : NetIn n g p) (h : huge n l = false) : NetOk n g p ∧ l.length ≤ 40 := by
  simp only [huge, Bool.or_eq_false_iff, decide_eq_false_iff_not] at h
  exact ⟨⟨H, by omega, by omega⟩, by omega⟩
theorem far_no (H : NetIn n g p) {k : Int} (h : farB n k = false) : NetOk n g p := by
  simp only [farB, Bool.or_eq_false_iff] at h
  exact (huge_no H h.1).1
def rdyB (n : Net) (k : Int) : Bool := !farB n k && n.valid
theorem s49' (H : NetIn n g p) (k : Int) (st : Bool) : Iso E 49 [netV n g p, I k] st = some (Bo (rdyB n k)) := by
  have c28 := fun st => s28 H k st
  simp only [netV] at c28
  refine Iso_of (es _ _ _ _) e49 ?_
  simp only [f49, netV, rdyB]
  cases hf : farB n k
  · have c19 := fun st => s19 (far_no H hf) st
    simp only [netV, chk] at c19
    cases hv : n.valid
    · simp only [hv, Bool.false_eq_true, if_false] at c19
      simp (disch := first | assumption | omega | (simp only [az]; done)) only [ru, eq_self, if_true, if_false, BEq.rfl, binI, AO.row?, splice, fillL, mmAll, loadV, storeV, zeros, Am.rowAt, Am.part, addOff, Nat.reduceAdd, Nat.reduceMul, Nat.reduceLeDiff, Nat.reduceSub, Nat.reduceLT, Int.reduceEq, Int.reduceLT, Int.reduceLE, Int.reduceGT, Int.reduceGE, Int.reduceAdd, Int.reduceSub, Int.reduceMul, Int.reduceNeg, Int.reduceToNat, reduceCtorEq, reduceIte, lenV_sl H.g, view_sl H.g, scalar_sl H.g, cells_sl H.g, pure_sl H.g, lenV_sl H.p, view_sl H.p, scalar_sl H.p, cells_sl H.p, pure_sl H.p, c28, hf, c19, hv, Bool.not_false, Bool.and_false, decide_false]
    · simp only [hv, if_true] at c19
      simp (disch := first | assumption | omega | (simp only [az]; done)) only [ru, eq_self, if_true, if_false, BEq.rfl, binI, AO.row?, splice, fillL, mmAll, loadV, storeV, zeros, Am.rowAt, Am.part, addOff, Nat.reduceAdd, Nat.reduceMul, Nat.reduceLeDiff, Nat.reduceSub, Nat.reduceLT, Int.reduceEq, Int.reduceLT, Int.reduceLE, Int.reduceGT, Int.reduceGE, Int.reduceAdd, Int.reduceSub, Int.reduceMul, Int.reduceNeg, Int.reduceToNat, reduceCtorEq, reduceIte, lenV_sl H.g, view_sl H.g, scalar_sl H.g, cells_sl H.g, pure_sl H.g, lenV_sl H.p, view_sl H.p, scalar_sl H.p, cells_sl H.p, pure_sl H.p, c28, hf, c19, hv, Bool.not_false, Bool.and_self, decide_true, beq_self_eq_true]
  · simp (disch := first | assumption | omega | (simp only [az]; done)) only [ru, eq_self, if_true, if_false, BEq.rfl, binI, AO.row?, splice, fillL, mmAll, loadV, storeV, zeros, Am.rowAt, Am.part, addOff, Nat.reduceAdd, Nat.reduceMul, Nat.reduceLeDiff, Nat.reduceSub, Nat.reduceLT, Int.reduceEq, Int.reduceLT, Int.reduceLE, Int.reduceGT, Int.reduceGE, Int.reduceAdd, Int.reduceSub, Int.reduceMul, Int.reduceNeg, Int.reduceToNat, reduceCtorEq, reduceIte, lenV_sl H.g, view_sl H.g, scalar_sl H.g, cells_sl H.g, pure_sl H.g, lenV_sl H.p, view_sl H.p, scalar_sl H.p, cells_sl H.p, pure_sl H.p, c28, hf, gUn, Bool.not_true, Bool.false_and]
theorem rdy_ok (H : NetIn n g p) {k : Int} (h : rdyB n k = true) : NetOk n g p ∧ n.valid = true := by
  simp only [rdyB, Bool.and_eq_true, Bool.not_eq_true'] at h
  exact ⟨far_no H h.1, h.2⟩
theorem s51 (H : NetOk n g p) (hv : n.valid = true) (st : Bool) : Iso E 51 [netV n g p] st = some (.tup [I (lea n), I (don n), Bo true]) := by
  obtain ⟨G, _, _, l, O⟩ := valid_ok hv
  have c1 := fun st => s29 H st
  have c2 := fun st => s35 H st
  have b1 := lea_bd G O
  have b2 := don_bd G O
  simp only [netV, leaR, donR, hv, if_true] at c1 c2
  obtain ⟨Z, hZ⟩ : ∃ Z, Z = lea n := ⟨_, rfl⟩
  obtain ⟨D, hD⟩ : ∃ D, D = don n := ⟨_, rfl⟩
  rw [← hZ] at b1 ⊢
  rw [← hD] at b2 ⊢
  simp only [← hZ, ← hD] at c1 c2
  have a1 : Z ≥ 0 := by omega
  have a2 : Z ≤ 100000 := by omega
  have a3 : D ≥ 0 := by omega
  have a4 : D ≤ 100000 := by omega
  refine Iso_of (es _ _ _ _) e51 ?_
  simp only [f51, netV]
  simp (disch := first | assumption | omega | (simp only [az]; done)) only [ru, eq_self, if_true, if_false, BEq.rfl, binI, AO.row?, splice, fillL, mmAll, loadV, storeV, zeros, Am.rowAt, Am.part, addOff, Nat.reduceAdd, Nat.reduceMul, Nat.reduceLeDiff, Nat.reduceSub, Nat.reduceLT, Int.reduceEq, Int.reduceLT, Int.reduceLE, Int.reduceGT, Int.reduceGE, Int.reduceAdd, Int.reduceSub, Int.reduceMul, Int.reduceNeg, Int.reduceToNat, reduceCtorEq, reduceIte, lenV_sl H.g, view_sl H.g, scalar_sl H.g, cells_sl H.g, pure_sl H.g, lenV_sl H.p, view_sl H.p, scalar_sl H.p, cells_sl H.p, pure_sl H.p, c1, c2, a1, a2, a3, a4, decide_true, beq_self_eq_true, fin3]
end
end Go.Proofs.Ytekoplcnlhanbaa.S

