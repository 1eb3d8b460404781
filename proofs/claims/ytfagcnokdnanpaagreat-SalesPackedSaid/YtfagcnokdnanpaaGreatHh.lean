/-
SalesRepack.
-/
import Derived.Test.YtfagcnokdnanpaaGreatHg
namespace Go.Proofs.YtfagcnokdnanpaaGreat.S
open Go Go.Am Go.Proofs.YtfagcnokdnanpaaGreat.T
set_option maxRecDepth 100000
set_option linter.unusedSimpArgs false
set_option linter.unusedVariables false
section
variable {f : Fs} {k p b pv bv : AV} {w : Nat → AV}
set_option maxHeartbeats 1000000 in
theorem t31 (H : FsOk f k p b pv bv w) : Iso E 31 [frV f k p b pv bv] false = some (.tup [if f.valid then slV 1 intL f.bst else .nils, I (fE f.valid)]) := by
  have ck := fun st => t38 H st
  simp only [frV, fE] at ck
  refine Iso_of (es _ _ _ _) e31 ?_
  simp only [f31, frV, fE]
  cases hv : f.valid
  · simp only [hv, Bool.false_eq_true, if_false] at ck
    simp (disch := first | assumption | omega | (simp only [az]; done)) only [ru, eq_self, if_true, if_false, BEq.rfl, binI, AO.row?, splice, fillL, mmAll, loadV, storeV, zeros, Am.rowAt, Am.part, addOff, Nat.reduceAdd, Nat.reduceMul, Nat.reduceLeDiff, Nat.reduceSub, Nat.reduceLT, Int.reduceEq, Int.reduceLT, Int.reduceLE, Int.reduceGT, Int.reduceGE, Int.reduceAdd, Int.reduceSub, Int.reduceMul, Int.reduceNeg, Int.reduceToNat, reduceCtorEq, reduceIte, H.fai, Int.toNat_natCast, ck, fin2]
    done
  simp only [hv, if_true] at ck
  have G := fvalid_iff hv
  obtain ⟨g1, hc, fr, gl, gm⟩ := c61 H G [.cells (frC f k p b pv bv) false]
  simp only [List.length_cons, List.length_nil, Nat.reduceAdd, Nat.zero_add, wkV, wkC, frV, frC] at hc gl gm
  obtain ⟨u, g2, hr, rfl⟩ := r71 H G (mo := 3) (lim := 0) (g := g1) (by omega) (by omega) gm CaOk.nil
  simp only [wkV, wkC] at hr
  have V : IsSl 1 intL f.bst (slV 1 intL f.bst) := slV_is
  simp (disch := first | assumption | omega | (simp only [az]; done)) only [ru, eq_self, if_true, if_false, BEq.rfl, binI, AO.row?, splice, fillL, mmAll, loadV, storeV, zeros, Am.rowAt, Am.part, addOff, Nat.reduceAdd, Nat.reduceMul, Nat.reduceLeDiff, Nat.reduceSub, Nat.reduceLT, Int.reduceEq, Int.reduceLT, Int.reduceLE, Int.reduceGT, Int.reduceGE, Int.reduceAdd, Int.reduceSub, Int.reduceMul, Int.reduceNeg, Int.reduceToNat, reduceCtorEq, reduceIte, rmp, H.fai, Int.toNat_natCast, lenV_sl V, view_sl V, scalar_sl V, cells_sl V, pure_sl V, ck, exOp_call2, hc, exOp_call0, hr, fin2, view_tup, List.mapM_cons, List.mapM_nil, view_int]
  try rfl
def Fs.far (f : Fs) : Bool := f.huge || f.h.far
theorem t29 (H : FsIn f k p b pv bv w) (st : Bool) : Iso E 29 [frV f k p b pv bv] st = some (Bo f.far) := by
  have a1 := fun st => t37 H st
  have a2 := fun st => s29 H.h st
  simp only [frV] at a1
  simp only [hsV] at a2
  refine Iso_of (es _ _ _ _) e29 ?_
  simp only [f29, Fs.far]
  cases c : f.huge
  · rw [c] at a1
    simp (disch := first | assumption | omega | (simp only [az]; done)) only [ru, eq_self, if_true, if_false, BEq.rfl, binI, AO.row?, splice, fillL, mmAll, loadV, storeV, zeros, Am.rowAt, Am.part, addOff, Nat.reduceAdd, Nat.reduceMul, Nat.reduceLeDiff, Nat.reduceSub, Nat.reduceLT, Int.reduceEq, Int.reduceLT, Int.reduceLE, Int.reduceGT, Int.reduceGE, Int.reduceAdd, Int.reduceSub, Int.reduceMul, Int.reduceNeg, Int.reduceToNat, reduceCtorEq, reduceIte, H.fai, Int.toNat_natCast, a1, a2, gUn, Bool.false_or]
  · rw [c] at a1
    simp (disch := first | assumption | omega | (simp only [az]; done)) only [ru, eq_self, if_true, if_false, BEq.rfl, binI, AO.row?, splice, fillL, mmAll, loadV, storeV, zeros, Am.rowAt, Am.part, addOff, Nat.reduceAdd, Nat.reduceMul, Nat.reduceLeDiff, Nat.reduceSub, Nat.reduceLT, Int.reduceEq, Int.reduceLT, Int.reduceLE, Int.reduceGT, Int.reduceGE, Int.reduceAdd, Int.reduceSub, Int.reduceMul, Int.reduceNeg, Int.reduceToNat, reduceCtorEq, reduceIte, H.fai, Int.toNat_natCast, a1, a2, gUn, Bool.true_or]
theorem bst_mem (G : FG f) : f.bst ∈ f.pks := by
  have l0 : 0 < f.pks.length := List.length_pos_of_mem (pk_mem G)
  have fb : ∀ (V : Nat → Int) (n : Nat), n ≤ f.pks.length → 0 ≤ (fsB V n).1 ∧ (fsB V n).1 < f.pks.length := by
    intro V n
    induction n with
    | zero => intro _; exact ⟨Int.le_refl _, by show (0 : Int) < f.pks.length; omega⟩
    | succ n ih =>
      intro hn
      have := ih (by omega)
      have e : fsB V (n + 1) = if (fsB V n).2 < V n then ((n : Int), V n) else fsB V n := rfl
      rw [e]; split
      · exact ⟨by show (0 : Int) ≤ n; omega, by show (n : Int) < _; omega⟩
      · exact this
  have := fb (fun i => f.with (f.pks.getD i [])) f.pks.length (Nat.le_refl _)
  exact getD_memL2 (by omega)
end
end Go.Proofs.YtfagcnokdnanpaaGreat.S
