/-
SalesRepack.
-/
import Derived.Test.YtfagcnokdnanpaaGreatHg
namespace Go.Proofs.YtfagcnokdnanpaaGreat.S
open Go Go.Am Go.Proofs.YtfagcnokdnanpaaGreat.T
set_option maxRecDepth 100000
set_option linter.unusedSimpArgs false
set_option linter.unusedVariables false
section
variable {f : Fs} {k p b pv bv : AV} {w : Nat → AV}
set_option maxHeartbeats 1000000 in
theorem t31 (H : FsOk f k p b pv bv w) : Iso E 31 [frV f k p b pv bv] false = some (.tup [if f.valid then slV 1 intL f.bst else .nils, I (fE f.valid)]) := by
  have ck := fun st => t38 H st
  simp only [frV, fE] at ck
  refine Iso_of (es _ _ _ _) e31 ?_
  simp only [f31, frV, fE]
  cases hv : f.valid
  · simp only [hv, Bool.false_eq_true, if_false] at ck
    simp (disch := first | assumption | omega | (simp only [az]; done)) only [ru, eq_self, if_true, if_false, BEq.rfl, binI, AO.row?, splice, fillL, mmAll, loadV, storeV, zeros, Am.rowAt, Am.part, addOff, Nat.reduceAdd, Nat.reduceMul, Nat.reduceLeDiff, Nat.reduceSub, Nat.reduceLT, Int.reduceEq, Int.reduceLT, Int.reduceLE, Int.reduceGT, Int.reduceGE, Int.reduceAdd, Int.reduceSub, Int.reduceMul, Int.reduceNeg, Int.reduceToNat, reduceCtorEq, reduceIte, H.fai, Int.toNat_natCast, ck, fin2]
    done
  simp only [hv, if_true] at ck
  have G := fvalid_iff hv
  obtain ⟨g1, hc, fr, gl, gm⟩ := c61 H G [.cells (frC f k p b pv bv) false]
  simp only [List.length_cons, List.length_nil, Nat.reduceAdd, Nat.zero_add, wkV, wkC, frV, frC] at hc gl gm
  obtain ⟨u, g2, hr, rfl⟩ := r71 H G (mo := 3) (lim := 0) (g := g1) (by omega) (by omega) gm CaOk.nil
  simp only [wkV, wkC] at hr
  have V : IsSl 1 intL f.bst (slV 1 intL f.bst) := slV_is
  simp (disch := first | assumption | omega | (simp only [az]; done)) only [ru, eq_self, if_true, if_false, BEq.rfl, binI, AO.row?, splice, fillL, mmAll, loadV, storeV, zeros, Am.rowAt, Am.part, addOff, Nat.reduceAdd, Nat.reduceMul, Nat.reduceLeDiff, Nat.reduceSub, Nat.reduceLT, Int.reduceEq, Int.reduceLT, Int.reduceLE, Int.reduceGT, Int.reduceGE, Int.reduceAdd, Int.reduceSub, Int.reduceMul, Int.reduceNeg, Int.reduceToNat, reduceCtorEq, reduceIte, rmp, H.fai, Int.toNat_natCast, lenV_sl V, view_sl V, scalar_sl V, cells_sl V, pure_sl V, ck, exOp_call2, hc, exOp_call0, hr, fin2, view_tup, List.mapM_cons, List.mapM_nil, view_int]
  try rfl
def Fs.far (f : Fs) : Bool := f.huge || f.h.far
theorem t29 (H : FsIn f k p b pv bv w) (st : Bool) : Iso E 29 [frV f k p b pv bv] st = some (Bo f.far) := by
  have a1 := fun st => t37 H st
  have a2 := fun st => s29 H.h st
  simp only [frV] at a1
  simp only [hsV] at a2
  refine Iso_of (es _ _ _ _) e29 ?_
  simp only [f29, Fs.far]
  cases c : f.huge
  · rw [c] at a1
    simp (disch := first | assumption | omega | (simp only [az]; done)) only [ru, eq_self, if_true, if_false, BEq.rfl, binI, AO.row?, splice, fillL, mmAll, loadV, storeV, zeros, Am.rowAt, Am.part, addOff, Nat.reduceAdd, Nat.reduceMul, Nat.reduceLeDiff, Nat.reduceSub, Nat.reduceLT, Int.reduceEq, Int.reduceLT, Int.reduceLE, Int.reduceGT, Int.reduceGE, Int.reduceAdd, Int.reduceSub, Int.reduceMul, Int.reduceNeg, Int.reduceToNat, reduceCtorEq, reduceIte, H.fai, Int.toNat_natCast, a1, a2, gUn, Bool.false_or]
  · rw [c] at a1
    simp (disch := first | assumption | omega | (simp only [az]; done)) only [ru, eq_self, if_true, if_false, BEq.rfl, binI, AO.row?, splice, fillL, mmAll, loadV, storeV, zeros, Am.rowAt, Am.part, addOff, Nat.reduceAdd, Nat.reduceMul, Nat.reduceLeDiff, Nat.reduceSub, Nat.reduceLT, Int.reduceEq, Int.reduceLT, Int.reduceLE, Int.reduceGT, Int.reduceGE, Int.reduceAdd, Int.reduceSub, Int.reduceMul, Int.reduceNeg, Int.reduceToNat, reduceCtorEq, reduceIte, H.fai, Int.toNat_natCast, a1, a2, gUn, Bool.true_or]
theorem bst_mem (G : FG f) : f.bst ∈ f.pks := by
  have l0 : 0 < f.pks.length := List.length_pos_of_mem (pk_mem G)
  have fb : ∀ (V : Nat → Int) (n : Nat), n ≤ f.pks.length → 0 ≤ (fsB V n).1 ∧ (fsB V n).1 < f.pks.length := by
    intro V n
    induction n with
    | zero => intro _; exact ⟨Int.le_refl _, by show (0 : Int) < f.pks.length; omega⟩
    | succ n ih =>
      intro hn
      have := ih (by omega)
      have e : fsB V (n + 1) = if (fsB V n).2 < V n then ((n : Int), V n) else fsB V n := rfl
      rw [e]; split
      · exact ⟨by show (0 : Int) ≤ n; omega, by show (n : Int) < _; omega⟩
      · exact this
  have := fb (fun i => f.with (f.pks.getD i [])) f.pks.length (Nat.le_refl _)
  exact getD_memL2 (by omega)
set_option maxHeartbeats 4000000 in
theorem l12 (H0 : FsIn f k p b pv bv w) : Iso E 12 [frV f k p b pv bv] false = some (Bo true) := by
  have a29 := fun st => t29 H0 st
  simp only [frV] at a29
  refine Iso_of (es _ _ _ _) e12 ?_
  simp only [f12]
  cases hh : f.far
  case true =>
    rw [hh] at a29
    simp (disch := first | assumption | omega | (simp only [az]; done)) only [ru, eq_self, if_true, if_false, BEq.rfl, binI, AO.row?, splice, fillL, mmAll, loadV, storeV, zeros, Am.rowAt, Am.part, addOff, Nat.reduceAdd, Nat.reduceMul, Nat.reduceLeDiff, Nat.reduceSub, Nat.reduceLT, Int.reduceEq, Int.reduceLT, Int.reduceLE, Int.reduceGT, Int.reduceGE, Int.reduceAdd, Int.reduceSub, Int.reduceMul, Int.reduceNeg, Int.reduceToNat, reduceCtorEq, reduceIte, H0.fai, Int.toNat_natCast, a29, t15, gUn]
  rw [hh] at a29
  have hg : f.huge = false := by
    simp only [Fs.far, Bool.or_eq_false_iff] at hh; exact hh.1
  have H := hugeF_ok H0 hg
  have nb := H.nb
  obtain ⟨wc, Hc⟩ := cpF_ok H
  have a33 := t33 H
  have a31 := t31 Hc
  have a57 := t57 H
  have a43 := fun st => t43 Hc H st
  obtain ⟨u1, u2, U, U2, e1, e2⟩ : ∃ u1 u2, IsSl 1 intL (if f.valid then f.bst else []) u1 ∧ IsSl 1 intL (if f.valid then f.bst else []) u2 ∧ u1 = (if f.valid then slV 1 intL f.bst else .nils) ∧ u2 = (if f.valid then resL f.bst else .nils) := by
    refine ⟨_, _, ?_, ?_, rfl, rfl⟩
    · split
      · exact slV_is
      · exact .inr ⟨rfl, rfl⟩
    · split
      · exact resL_is _
      · exact .inr ⟨rfl, rfl⟩
  have a35 := fun st => s28 U U2 (by cases hv : f.valid
                                     · simp
                                     · have G := fvalid_iff hv
                                       have h1 := (mem_pks.1 (bst_mem G)).2.1
                                       have h2 := G.h.np
                                       simp only [if_true]; omega) st
  rw [← e1] at a31
  rw [← e2] at a57
  simp only [cpF, frV] at a33 a31 a57 a43
  obtain ⟨e, he⟩ : ∃ e, e = fE f.valid := ⟨_, rfl⟩
  rw [← he] at a31 a57
  obtain ⟨B, hB⟩ : ∃ B, B = resB f.bids := ⟨_, rfl⟩
  have B1 : B.scalar = true := by rw [hB]; exact Hc.bi.sc
  have B2 : B.cells = [B] := by rw [hB]; exact Hc.bi.ce
  have B3 : ∀ (g : List AO) (n : Nat), view false g n B = some B := fun g n => by rw [hB]; exact Hc.bi.vw g _
  have B4 : B.pureV = true := by rw [hB]; exact Hc.bi.pu
  simp only [← hB] at a33 a31 a43
  have sk : IsSl 2 Kd.e f.h.ks (slV 2 Kd.e f.h.ks) := slV_is
  have sp : IsSl 2 Pr.e f.h.ps (slV 2 Pr.e f.h.ps) := slV_is
  have sb : IsSl 1 intL f.h.bs (slV 1 intL f.h.bs) := slV_is
  have sq : IsSl 1 intL f.pk (slV 1 intL f.pk) := slV_is
  clear hB e1 e2 he
  have q2 : ∀ x : Int, (x == x) = true := fun x => by simp
  simp (disch := first | assumption | omega | (simp only [az]; done)) only [ru, eq_self, if_true, if_false, BEq.rfl, binI, AO.row?, splice, fillL, mmAll, loadV, storeV, zeros, Am.rowAt, Am.part, addOff, Nat.reduceAdd, Nat.reduceMul, Nat.reduceLeDiff, Nat.reduceSub, Nat.reduceLT, Int.reduceEq, Int.reduceLT, Int.reduceLE, Int.reduceGT, Int.reduceGE, Int.reduceAdd, Int.reduceSub, Int.reduceMul, Int.reduceNeg, Int.reduceToNat, reduceCtorEq, reduceIte, H.fai, Int.toNat_natCast, lenV_sl U, view_sl U, scalar_sl U, cells_sl U, pure_sl U, lenV_sl U2, view_sl U2, scalar_sl U2, cells_sl U2, pure_sl U2, lenV_sl sk, view_sl sk, scalar_sl sk, cells_sl sk, pure_sl sk, lenV_sl sp, view_sl sp, scalar_sl sp, cells_sl sp, pure_sl sp, lenV_sl sb, view_sl sb, scalar_sl sb, cells_sl sb, pure_sl sb, lenV_sl sq, view_sl sq, scalar_sl sq, cells_sl sq, pure_sl sq, B1, B2, B3, B4, a29, gUn, a33, GO_mcall1, hide, a31, a57, a35, q2, a43, t15]
  done
end
end Go.Proofs.YtfagcnokdnanpaaGreat.S
