/-
SalesHonest, the law.
-/
import Derived.Test.YtfagcnokdnanpaaGreatFx
namespace Go.Proofs.YtfagcnokdnanpaaGreat.S
open Go Go.Am Go.Proofs.YtfagcnokdnanpaaGreat.T
set_option maxRecDepth 100000
set_option linter.unusedSimpArgs false
set_option linter.unusedVariables false

section
variable {f : Fs} {k p b pv bv : AV} {w : Nat → AV}
set_option maxHeartbeats 2000000 in
theorem l5 (H : FsIn f k p b pv bv w) (u m : Int) : Iso E 5 [frV f k p b pv bv, I u, I m] false = some (Bo true) := by
  have a13 := fun st => t13 H st
  simp only [frV] at a13
  refine Iso_of (es _ _ _ _) e5 ?_
  simp only [f5]
  cases hr : f.rdy
  · rw [hr] at a13
    simp (disch := first | assumption | omega | (simp only [az]; done)) only [ru, eq_self, if_true, if_false, BEq.rfl, binI, AO.row?, splice, fillL, mmAll, loadV, storeV, zeros, Am.rowAt, Am.part, addOff, Nat.reduceAdd, Nat.reduceMul, Nat.reduceLeDiff, Nat.reduceSub, Nat.reduceLT, Int.reduceEq, Int.reduceLT, Int.reduceLE, Int.reduceGT, Int.reduceGE, Int.reduceAdd, Int.reduceSub, Int.reduceMul, Int.reduceNeg, Int.reduceToNat, reduceCtorEq, reduceIte, lenV_sl H.h.k, lenV_sl H.h.p, lenV_sl H.h.b, elem_kd H.h.k, elem_pr H.h.p, elem_in H.h.b, view_sl H.h.k, view_sl H.h.p, view_sl H.h.b, scalar_sl H.h.k, scalar_sl H.h.p, scalar_sl H.h.b, cells_sl H.h.k, cells_sl H.h.p, cells_sl H.h.b, pure_sl H.h.k, pure_sl H.h.p, pure_sl H.h.b, Int.toNat_natCast, lenV_sl H.pk, view_sl H.pk, scalar_sl H.pk, cells_sl H.pk, pure_sl H.pk, H.bi.len, H.bi.sc, H.bi.ce, H.bi.pu, H.bi.vw, a13, t15, gUn, Bool.not_false]
  rw [hr] at a13
  obtain ⟨K, G, hv⟩ := rdy_ok H hr
  have gn := G.bg.nn
  have a27 := fun st => t27 H u ⟨by omega, by omega⟩ st
  simp only [frV] at a27
  cases hu : inR u 0 (f.n - 1)
  · rw [hu] at a27
    simp (disch := first | assumption | omega | (simp only [az]; done)) only [ru, eq_self, if_true, if_false, BEq.rfl, binI, AO.row?, splice, fillL, mmAll, loadV, storeV, zeros, Am.rowAt, Am.part, addOff, Nat.reduceAdd, Nat.reduceMul, Nat.reduceLeDiff, Nat.reduceSub, Nat.reduceLT, Int.reduceEq, Int.reduceLT, Int.reduceLE, Int.reduceGT, Int.reduceGE, Int.reduceAdd, Int.reduceSub, Int.reduceMul, Int.reduceNeg, Int.reduceToNat, reduceCtorEq, reduceIte, lenV_sl H.h.k, lenV_sl H.h.p, lenV_sl H.h.b, elem_kd H.h.k, elem_pr H.h.p, elem_in H.h.b, view_sl H.h.k, view_sl H.h.p, view_sl H.h.b, scalar_sl H.h.k, scalar_sl H.h.p, scalar_sl H.h.b, cells_sl H.h.k, cells_sl H.h.p, cells_sl H.h.b, pure_sl H.h.k, pure_sl H.h.p, pure_sl H.h.b, Int.toNat_natCast, lenV_sl H.pk, view_sl H.pk, scalar_sl H.pk, cells_sl H.pk, pure_sl H.pk, H.bi.len, H.bi.sc, H.bi.ce, H.bi.pu, H.bi.vw, a13, a27, t15, gUn, Bool.not_false, Bool.not_true]
  rw [hu] at a27
  cases hm : inR m 1 99
  · simp (disch := first | assumption | omega | (simp only [az]; done)) only [ru, eq_self, if_true, if_false, BEq.rfl, binI, AO.row?, splice, fillL, mmAll, loadV, storeV, zeros, Am.rowAt, Am.part, addOff, Nat.reduceAdd, Nat.reduceMul, Nat.reduceLeDiff, Nat.reduceSub, Nat.reduceLT, Int.reduceEq, Int.reduceLT, Int.reduceLE, Int.reduceGT, Int.reduceGE, Int.reduceAdd, Int.reduceSub, Int.reduceMul, Int.reduceNeg, Int.reduceToNat, reduceCtorEq, reduceIte, lenV_sl H.h.k, lenV_sl H.h.p, lenV_sl H.h.b, elem_kd H.h.k, elem_pr H.h.p, elem_in H.h.b, view_sl H.h.k, view_sl H.h.p, view_sl H.h.b, scalar_sl H.h.k, scalar_sl H.h.p, scalar_sl H.h.b, cells_sl H.h.k, cells_sl H.h.p, cells_sl H.h.b, pure_sl H.h.k, pure_sl H.h.p, pure_sl H.h.b, Int.toNat_natCast, lenV_sl H.pk, view_sl H.pk, scalar_sl H.pk, cells_sl H.pk, pure_sl H.pk, H.bi.len, H.bi.sc, H.bi.ce, H.bi.pu, H.bi.vw, a13, a27, s57, hm, t15, gUn, Bool.not_false, Bool.not_true]
  have hm' := inR_iff.1 hm
  have h0 : ∀ s ∈ allS f.r f.bids, 0 ≤ prc f.bids s := fun s hs => (sale_bd G.bg (mem_allS.1 hs)).1
  have i1 := bV_is (p := fun _ => true) h0
  have w1 := wins_is G.bg (r := f.r)
  have wl := isS_lenL w1.1
  have nb := K.nb
  have a17 := t17 K hv
  have a25 := fun st => t25 K u st
  have a26 := fun st => t26 K (s := wins f.bids f.r) i1 (by omega) (isS_mem w1.1) u st
  simp only [frV, hv, hu, askF, fE_t, if_true] at a17 a25 a26
  obtain ⟨V, hV⟩ : ∃ V, V = bV (bsT f.bids (fun _ => true) (allS f.r f.bids)) := ⟨_, rfl⟩
  have i1' : IsSl 1 intL (wins f.bids f.r) V := by rw [hV]; exact i1
  rw [← hV] at a17 a26
  cases hf : (wins f.bids f.r).find? (byU f.bids u) with
  | none =>
    simp only [hf, Option.getD_none] at a26
    simp (disch := first | assumption | omega | (simp only [az]; done)) only [ru, eq_self, if_true, if_false, BEq.rfl, binI, AO.row?, splice, fillL, mmAll, loadV, storeV, zeros, Am.rowAt, Am.part, addOff, Nat.reduceAdd, Nat.reduceMul, Nat.reduceLeDiff, Nat.reduceSub, Nat.reduceLT, Int.reduceEq, Int.reduceLT, Int.reduceLE, Int.reduceGT, Int.reduceGE, Int.reduceAdd, Int.reduceSub, Int.reduceMul, Int.reduceNeg, Int.reduceToNat, reduceCtorEq, reduceIte, lenV_sl H.h.k, lenV_sl H.h.p, lenV_sl H.h.b, elem_kd H.h.k, elem_pr H.h.p, elem_in H.h.b, view_sl H.h.k, view_sl H.h.p, view_sl H.h.b, scalar_sl H.h.k, scalar_sl H.h.p, scalar_sl H.h.b, cells_sl H.h.k, cells_sl H.h.p, cells_sl H.h.b, pure_sl H.h.k, pure_sl H.h.p, pure_sl H.h.b, Int.toNat_natCast, lenV_sl H.pk, view_sl H.pk, scalar_sl H.pk, cells_sl H.pk, pure_sl H.pk, H.bi.len, H.bi.sc, H.bi.ce, H.bi.pu, H.bi.vw, lenV_sl i1', view_sl i1', scalar_sl i1', cells_sl i1', pure_sl i1', a13, a27, s57, hm, a17, a26, t15, gUn, Bool.not_true, decide_true]
  | some c =>
    simp only [hf, Option.getD_some] at a26
    have wu := win_u G.bg hf
    have c0 := wu.2.2.1
    have hc := wu.2.2.2.1
    have gc := G.bg.at c0 hc
    have eb := H.bi.el c c0 hc
    have nc : ¬ c < 0 := by omega
    by_cases hz : (bAt f.bids c).c + m > 99
    · simp (disch := first | assumption | omega | (simp only [az]; done)) only [ru, eq_self, if_true, if_false, BEq.rfl, binI, AO.row?, splice, fillL, mmAll, loadV, storeV, zeros, Am.rowAt, Am.part, addOff, Nat.reduceAdd, Nat.reduceMul, Nat.reduceLeDiff, Nat.reduceSub, Nat.reduceLT, Int.reduceEq, Int.reduceLT, Int.reduceLE, Int.reduceGT, Int.reduceGE, Int.reduceAdd, Int.reduceSub, Int.reduceMul, Int.reduceNeg, Int.reduceToNat, reduceCtorEq, reduceIte, lenV_sl H.h.k, lenV_sl H.h.p, lenV_sl H.h.b, elem_kd H.h.k, elem_pr H.h.p, elem_in H.h.b, view_sl H.h.k, view_sl H.h.p, view_sl H.h.b, scalar_sl H.h.k, scalar_sl H.h.p, scalar_sl H.h.b, cells_sl H.h.k, cells_sl H.h.p, cells_sl H.h.b, pure_sl H.h.k, pure_sl H.h.p, pure_sl H.h.b, Int.toNat_natCast, lenV_sl H.pk, view_sl H.pk, scalar_sl H.pk, cells_sl H.pk, pure_sl H.pk, H.bi.len, H.bi.sc, H.bi.ce, H.bi.pu, H.bi.vw, lenV_sl i1', view_sl i1', scalar_sl i1', cells_sl i1', pure_sl i1', a13, a27, s57, hm, a17, a26, nc, eb, hz, t15, gUn, Bool.not_true, decide_true, decide_false]
    have hz' : 0 ≤ (bAt f.bids c).c + m ∧ (bAt f.bids c).c + m ≤ 99 := ⟨by omega, by omega⟩
    have ho := honest G hf hm'.1 (by omega)
    obtain ⟨w', K'⟩ := K.off (z := (bAt f.bids c).c + m) c0 hc
    have hv' := off_valid hv c0 hc hz'
    have G' := G.off c0 hc hz'
    have h0' : ∀ s ∈ allS (f.off c ((bAt f.bids c).c + m)).r (f.off c ((bAt f.bids c).c + m)).bids, 0 ≤ prc (f.off c ((bAt f.bids c).c + m)).bids s := fun s hs => (sale_bd G'.bg (mem_allS.1 hs)).1
    have i2 := bV_is (p := fun _ => true) h0'
    have w2 := wins_is G'.bg (r := f.r)
    have wl2 := isS_lenL w2.1
    have nb' := K'.nb
    have a28 := t28 K c0 hc ((bAt f.bids c).c + m)
    have b17 := t17 K' hv'
    have b25 := fun st => t25 K' u st
    have hu' : inR u 0 ((f.off c ((bAt f.bids c).c + m)).n - 1) = true := hu
    simp only [hv', hu', askF, fE_t, if_true, off_r] at b25
    rw [ho.2] at b25
    have b22 := fun st => s55 (l := wins (f.off c ((bAt f.bids c).c + m)).bids f.r) i2 (by omega) c st
    rw [decide_eq_true ho.1] at b22
    obtain ⟨B, hB⟩ : ∃ B, B = resB (f.off c ((bAt f.bids c).c + m)).bids := ⟨_, rfl⟩
    obtain ⟨V2, hV2⟩ : ∃ V2, V2 = bV (bsT (f.off c ((bAt f.bids c).c + m)).bids (fun _ => true) (allS (f.off c ((bAt f.bids c).c + m)).r (f.off c ((bAt f.bids c).c + m)).bids)) := ⟨_, rfl⟩
    rw [← hV2] at b17 b22 i2
    obtain ⟨P, hP⟩ : ∃ P, P = payF f.bids f.r u := ⟨_, rfl⟩
    rw [← hP] at a25 b25
    simp only [cpF, frV] at a28
    simp only [frV] at b17 b25
    rw [← hB] at a28 b17 b25
    have kB : B.scalar = true ∧ B.cells = [B] := by rw [hB]; exact ⟨K'.bi.sc, K'.bi.ce⟩
    have eP : (P == P) = true := by simp
    have sk : IsSl 2 Kd.e f.h.ks (slV 2 Kd.e f.h.ks) := slV_is
    have sp : IsSl 2 Pr.e f.h.ps (slV 2 Pr.e f.h.ps) := slV_is
    have sb : IsSl 1 intL f.h.bs (slV 1 intL f.h.bs) := slV_is
    have sq : IsSl 1 intL f.pk (slV 1 intL f.pk) := slV_is
    have vB : ∀ (g : List AO) (n : Nat), view false g n B = some B := fun g n => by rw [hB]; exact K'.bi.vw g n
    have pB : B.pureV = true := by rw [hB]; exact K'.bi.pu
    have eo : (f.off c ((bAt f.bids c).c + m)).h = f.h := rfl
    simp only [Fs.off] at a28 b17 b25
    simp (disch := first | assumption | omega | (simp only [az]; done)) only [ru, eq_self, if_true, if_false, BEq.rfl, binI, AO.row?, splice, fillL, mmAll, loadV, storeV, zeros, Am.rowAt, Am.part, addOff, Nat.reduceAdd, Nat.reduceMul, Nat.reduceLeDiff, Nat.reduceSub, Nat.reduceLT, Int.reduceEq, Int.reduceLT, Int.reduceLE, Int.reduceGT, Int.reduceGE, Int.reduceAdd, Int.reduceSub, Int.reduceMul, Int.reduceNeg, Int.reduceToNat, reduceCtorEq, reduceIte, lenV_sl H.h.k, lenV_sl H.h.p, lenV_sl H.h.b, elem_kd H.h.k, elem_pr H.h.p, elem_in H.h.b, view_sl H.h.k, view_sl H.h.p, view_sl H.h.b, scalar_sl H.h.k, scalar_sl H.h.p, scalar_sl H.h.b, cells_sl H.h.k, cells_sl H.h.p, cells_sl H.h.b, pure_sl H.h.k, pure_sl H.h.p, pure_sl H.h.b, Int.toNat_natCast, lenV_sl H.pk, view_sl H.pk, scalar_sl H.pk, cells_sl H.pk, pure_sl H.pk, H.bi.len, H.bi.sc, H.bi.ce, H.bi.pu, H.bi.vw, lenV_sl i1', view_sl i1', scalar_sl i1', cells_sl i1', pure_sl i1', lenV_sl i2, view_sl i2, scalar_sl i2, cells_sl i2, pure_sl i2, lenV_sl sk, view_sl sk, scalar_sl sk, cells_sl sk, pure_sl sk, lenV_sl sp, view_sl sp, scalar_sl sp, cells_sl sp, pure_sl sp, lenV_sl sb, view_sl sb, scalar_sl sb, cells_sl sb, pure_sl sb, lenV_sl sq, view_sl sq, scalar_sl sq, cells_sl sq, pure_sl sq, kB.1, kB.2, vB, pB, a13, a27, s57, hm, a17, a26, nc, eb, hz, GO_mcall1, hide, a28, b17, a25, b25, b22, eP, t15, gUn, Bool.not_true, decide_true, decide_false, Bool.and_self]
    done
end
end Go.Proofs.YtfagcnokdnanpaaGreat.S

