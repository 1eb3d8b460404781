/-
The law of stage 2 on the net backwards.
-/
import Derived.Test.YtpflneddfhifkaaHq
namespace Go.Proofs.Ytpflneddfhifkaa.S
open Go Go.Am Go.Proofs.Ytpflneddfhifkaa.T
set_option maxRecDepth 100000
set_option linter.unusedSimpArgs false
set_option linter.unusedVariables false

set_option maxHeartbeats 4000000 in
theorem s12 {n : Net} {g a w : AV} (H0 : NetIn n g a w) {t : Tru} {v : AV} (V0 : TruIn t v) (st : Bool) : Iso E 12 [netV n g a w, .agg [I t.wind, I t.cur, v]] st = some (Bo true) := by
  refine Iso_of (es _ _ _ _) e12 ?_
  simp only [f12, netV]
  by_cases hs : smallN n
  case neg =>
    simp (disch := first | assumption | omega | (simp only [az]; done)) only [ru, eq_self, if_true, if_false, BEq.rfl, binI, AO.row?, splice, fillL, mmAll, loadV, storeV, zeros, Am.rowAt, Am.part, addOff, Nat.reduceAdd, Nat.reduceMul, Nat.reduceLeDiff, Nat.reduceSub, Nat.reduceLT, Int.reduceEq, Int.reduceLT, Int.reduceLE, Int.reduceGT, Int.reduceGE, Int.reduceAdd, Int.reduceSub, Int.reduceMul, Int.reduceNeg, Int.reduceToNat, reduceCtorEq, reduceIte, s51h H0 hs V0, view_sl H0.g, view_sl H0.a, view_sl H0.w, view_sl V0.s, gUn, s16]
  have H : NetOk n g a w := ⟨H0.g, H0.a, H0.w, hs.1, hs.2.1, hs.2.2⟩
  have sa := H.sa
  cases hg : gvn n t
  · simp (disch := first | assumption | omega | (simp only [az]; done)) only [ru, eq_self, if_true, if_false, BEq.rfl, binI, AO.row?, splice, fillL, mmAll, loadV, storeV, zeros, Am.rowAt, Am.part, addOff, Nat.reduceAdd, Nat.reduceMul, Nat.reduceLeDiff, Nat.reduceSub, Nat.reduceLT, Int.reduceEq, Int.reduceLT, Int.reduceLE, Int.reduceGT, Int.reduceGE, Int.reduceAdd, Int.reduceSub, Int.reduceMul, Int.reduceNeg, Int.reduceToNat, reduceCtorEq, reduceIte, lenV_sl H.g, lenV_sl H.a, lenV_sl H.w, elem_sl Spn.el H.g, elem_sl Anc.el H.a, elem_sl Wal.el H.w, view_sl H.g, view_sl H.a, view_sl H.w, scalar_sl H.g, scalar_sl H.a, scalar_sl H.w, cells_sl H.g, cells_sl H.a, cells_sl H.w, pure_sl H.g, pure_sl H.a, pure_sl H.w, Spn.e, Anc.e, Wal.e, Spn.eta, Anc.eta, Wal.eta, Int.toNat_natCast, s51 H V0, view_sl V0.s, hg, gUn, s16]
  have G := gvn_good hg
  have V : TruOk t v := ⟨V0.s, gvn_l hg⟩
  have hv := G.v
  have hv' := turn_valid hv
  have lw := (netB hv).lw
  have la := (netB hv).la
  have a0 := fun st => s60 H st
  have H' : NetOk (turned n) (slV 2 Spn.e (turned n).grips) (slV 2 Anc.e (turned n).ancs) (slV 5 Wal.e (turned n).walls) := ⟨slV_is, slV_is, slV_is, H.sg, by rw [turn_len]; exact H.sa, by rw [turn_lw]; exact H.sw⟩
  have a1 := s52 H V G
  have a2 := s52 H' V (turn_good G)
  have a3 := fun st => s43 H hv st
  have a4 := fun st => s43 H' hv' st
  have a5 := fun st => s45 H hv st
  have a6 := fun st => s45 H' hv' st
  have a7 := fun st => s49 H hv st
  have a8 := fun st => s49 H' hv' st
  have e1 : calm (turned n) = calm n := rfl
  have e2 : rough (turned n) = rough n := rfl
  simp only [e1, turn_lwd (calm_good hv).toFair] at a6
  simp only [e2, turn_lwd (rough_good hv).toFair] at a4
  simp only [turn_all hv, turn_len] at a8
  have D1 := fun i hi st => s37 H hv (i := i) hi st
  have D2 := fun i (hi : i < n.ancs.length) st => s37 H' hv' (i := rv n i) (by rw [turn_len]; exact rv_lt hi) st
  have P1 := fun i hi st => s41 H hv (i := i) hi st
  have P2 := fun i (hi : i < n.ancs.length) st => s41 H' hv' (i := rv n i) (by rw [turn_len]; exact rv_lt hi) st
  have ec : ∀ i, i < n.ancs.length → ((rv n i : Nat) : Int) = (n.ancs.length : Int) - 1 - (i : Int) := fun i hi => by unfold rv; omega
  have dd : ∀ i, i < n.ancs.length → dragR (turned n) (rv n i) (lfp (turned n) (calm (turned n)) none6 (rv n i)) (lfp (turned n) (rough (turned n)) none6 (rv n i)) = dragR n i (lfp n (calm n) none6 i) (lfp n (rough n) none6 i) := fun i hi => by
    rw [e1, e2, turn_lfp (calm_good hv).toFair hi, turn_lfp (rough_good hv).toFair hi]; rfl
  have pp : ∀ i, i < n.ancs.length → spareI (turned n) (rough (turned n)) (rv n i) = spareI n (rough n) i ∧ spareI (turned n) (calm (turned n)) (rv n i) = spareI n (calm n) i := fun i hi => by
    rw [e1, e2]; exact ⟨turn_spare lw hi, turn_spare lw hi⟩
  have mir := turn_mir (n := n) (D := lfp n t none6) (D' := lfp (turned n) t none6) fun j hj => turn_lfp G.toFair hj
  have nd := fun i hi => turn_ndl (n := n) (i := i) hv hi
  have rL := lst_rises (turned n) (lfp (turned n) t none6)
  rw [turn_len] at rL
  obtain ⟨n', hn'⟩ : ∃ n', n' = turned n := ⟨_, rfl⟩
  rw [← hn'] at a2 H' mir rL
  simp only [← hn'] at a0 a4 a6 a8 D2 P2 dd pp nd
  obtain ⟨K, hK⟩ : ∃ K, K = lst n (lfp n t none6) := ⟨_, rfl⟩
  obtain ⟨L, hL⟩ : ∃ L, L = lst n' (lfp n' t none6) := ⟨_, rfl⟩
  have lK : K.length ≤ n.ancs.length := by rw [hK]; exact lst_le
  rw [← hK] at a1 mir
  rw [← hL] at a2 mir rL
  have b3 := fun st => s61 H (resL_is K) (resL_is L) (by omega) mir.1 (fun i hi => by have := inR_iff.1 (rL i hi).1; omega) mir.2 st
  simp only [netC, netV] at a0 a2 a4 a6 a8 D2 P2 b3
  simp (disch := first | assumption | omega | (simp only [az]; done)) only [ru, eq_self, if_true, if_false, BEq.rfl, binI, AO.row?, splice, fillL, mmAll, loadV, storeV, zeros, Am.rowAt, Am.part, addOff, Nat.reduceAdd, Nat.reduceMul, Nat.reduceLeDiff, Nat.reduceSub, Nat.reduceLT, Int.reduceEq, Int.reduceLT, Int.reduceLE, Int.reduceGT, Int.reduceGE, Int.reduceAdd, Int.reduceSub, Int.reduceMul, Int.reduceNeg, Int.reduceToNat, reduceCtorEq, reduceIte, lenV_sl H.g, lenV_sl H.a, lenV_sl H.w, elem_sl Spn.el H.g, elem_sl Anc.el H.a, elem_sl Wal.el H.w, view_sl H.g, view_sl H.a, view_sl H.w, scalar_sl H.g, scalar_sl H.a, scalar_sl H.w, cells_sl H.g, cells_sl H.a, cells_sl H.w, pure_sl H.g, pure_sl H.a, pure_sl H.w, Spn.e, Anc.e, Wal.e, Spn.eta, Anc.eta, Wal.eta, Int.toNat_natCast, lenV_sl V.s, elem_sl intE V.s, view_sl V.s, scalar_sl V.s, cells_sl V.s, pure_sl V.s, s51 H V0, hg, gUn, a0, slV_sc, slV_ce, slV_vi, slV_pu, a1, a2, a3, a4, a5, a6, b3, resL_vi, ne_eq, not_true_eq_false]
  clear b3 a1 a2 a3 a4 a5 a6 mir rL
  refine G_loop_ind (fun m ts h mk => ∃ (i : Nat) (J : List AO), i ≤ n.ancs.length ∧ m = n.ancs.length - i ∧ ts.length = 204 ∧ ts.getD 2 .undef = .ptr 0 0 ∧ ts.getD 5 .undef = .ptr 2 0 ∧ ts.getD 18 .undef = I ((n.ancs.length : Int) - 1) ∧ ts.getD 19 .undef = I i ∧
    h = .cells [I n.wind.lo, I n.wind.hi, I n.cur.lo, I n.cur.hi, g, a, w] false :: .cells [I t.wind, I t.cur, v] false :: .cells [I n'.wind.lo, I n'.wind.hi, I n'.cur.lo, I n'.cur.hi, slV 2 Spn.e n'.grips, slV 2 Anc.e n'.ancs, slV 5 Wal.e n'.walls] false :: J ∧ mk = []) ?_ _ _ _ _ ⟨0, [], Nat.zero_le _, rfl, rfl, rfl, rfl, rfl, rfl, rfl, rfl⟩
  rintro m ts h mk ih ⟨i, J, hi, rfl, hl, q2, q5, q18, q19, rfl, rfl⟩
  rw [lit_all hl]
  simp only [lit0, litS, Nat.reduceAdd, q2, q5, q18, q19]
  simp (disch := first | assumption | omega | (simp only [az]; done)) only [ru, eq_self, if_true, if_false, BEq.rfl, binI, AO.row?, splice, fillL, mmAll, loadV, storeV, zeros, Am.rowAt, Am.part, addOff, Nat.reduceAdd, Nat.reduceMul, Nat.reduceLeDiff, Nat.reduceSub, Nat.reduceLT, Int.reduceEq, Int.reduceLT, Int.reduceLE, Int.reduceGT, Int.reduceGE, Int.reduceAdd, Int.reduceSub, Int.reduceMul, Int.reduceNeg, Int.reduceToNat, reduceCtorEq, reduceIte, lenV_sl H.g, lenV_sl H.a, lenV_sl H.w, elem_sl Spn.el H.g, elem_sl Anc.el H.a, elem_sl Wal.el H.w, view_sl H.g, view_sl H.a, view_sl H.w, scalar_sl H.g, scalar_sl H.a, scalar_sl H.w, cells_sl H.g, cells_sl H.a, cells_sl H.w, pure_sl H.g, pure_sl H.a, pure_sl H.w, Spn.e, Anc.e, Wal.e, Spn.eta, Anc.eta, Wal.eta, Int.toNat_natCast]
  by_cases hlt : (i : Int) ≤ (n.ancs.length : Int) - 1
  case pos =>
    have hi' : i < n.ancs.length := by omega
    have c1 := fun st => D1 i hi' st
    have c2 := fun st => D2 i hi' st
    have c3 := fun st => P1 i hi' st
    have c4 := fun st => P2 i hi' st
    simp only [dd i hi', ec i hi'] at c2
    simp only [(pp i hi').1, (pp i hi').2, ec i hi'] at c4
    obtain ⟨x1, hx1⟩ : ∃ x1, x1 = dragR n i (lfp n (calm n) none6 i) (lfp n (rough n) none6 i) := ⟨_, rfl⟩
    obtain ⟨x2, hx2⟩ : ∃ x2, x2 = spareI n (rough n) i := ⟨_, rfl⟩
    obtain ⟨x3, hx3⟩ : ∃ x3, x3 = spareI n (calm n) i := ⟨_, rfl⟩
    simp only [← hx1] at c1 c2
    simp only [← hx2, ← hx3] at c3 c4
    simp (disch := first | assumption | omega | (simp only [az]; done)) only [ru, eq_self, if_true, if_false, BEq.rfl, binI, AO.row?, splice, fillL, mmAll, loadV, storeV, zeros, Am.rowAt, Am.part, addOff, Nat.reduceAdd, Nat.reduceMul, Nat.reduceLeDiff, Nat.reduceSub, Nat.reduceLT, Int.reduceEq, Int.reduceLT, Int.reduceLE, Int.reduceGT, Int.reduceGE, Int.reduceAdd, Int.reduceSub, Int.reduceMul, Int.reduceNeg, Int.reduceToNat, reduceCtorEq, reduceIte, lenV_sl H.g, lenV_sl H.a, lenV_sl H.w, elem_sl Spn.el H.g, elem_sl Anc.el H.a, elem_sl Wal.el H.w, view_sl H.g, view_sl H.a, view_sl H.w, scalar_sl H.g, scalar_sl H.a, scalar_sl H.w, cells_sl H.g, cells_sl H.a, cells_sl H.w, pure_sl H.g, pure_sl H.a, pure_sl H.w, Spn.e, Anc.e, Wal.e, Spn.eta, Anc.eta, Wal.eta, Int.toNat_natCast, lenV_sl V.s, elem_sl intE V.s, view_sl V.s, scalar_sl V.s, cells_sl V.s, pure_sl V.s, hlt, c1, c2, c3, c4, gUn, slV_sc, slV_ce, slV_vi, slV_pu, ne_eq, not_true_eq_false]
    exact ih (n.ancs.length - (i + 1)) _ _ _ (by omega) ⟨i + 1, _, by omega, rfl, rfl, rfl, rfl, rfl, rfl, rfl, rfl⟩
  clear ih q2 q5 q18 q19 hl D1 D2 P1 P2 dd pp ec
  obtain rfl : i = n.ancs.length := by omega
  cases hA : ndAll n
  · simp only [hA, Bool.false_eq_true, if_false] at a7 a8
    have hz : ¬ (0 : Int) > n.ancs.length := by omega
    simp (disch := first | assumption | omega | (simp only [az]; done)) only [ru, eq_self, if_true, if_false, BEq.rfl, binI, AO.row?, splice, fillL, mmAll, loadV, storeV, zeros, Am.rowAt, Am.part, addOff, Nat.reduceAdd, Nat.reduceMul, Nat.reduceLeDiff, Nat.reduceSub, Nat.reduceLT, Int.reduceEq, Int.reduceLT, Int.reduceLE, Int.reduceGT, Int.reduceGE, Int.reduceAdd, Int.reduceSub, Int.reduceMul, Int.reduceNeg, Int.reduceToNat, reduceCtorEq, reduceIte, lenV_sl H.g, lenV_sl H.a, lenV_sl H.w, elem_sl Spn.el H.g, elem_sl Anc.el H.a, elem_sl Wal.el H.w, view_sl H.g, view_sl H.a, view_sl H.w, scalar_sl H.g, scalar_sl H.a, scalar_sl H.w, cells_sl H.g, cells_sl H.a, cells_sl H.w, pure_sl H.g, pure_sl H.a, pure_sl H.w, Spn.e, Anc.e, Wal.e, Spn.eta, Anc.eta, Wal.eta, Int.toNat_natCast, lenV_sl V.s, elem_sl intE V.s, view_sl V.s, scalar_sl V.s, cells_sl V.s, pure_sl V.s, hlt, a7, a8, gUn, slV_sc, slV_ce, slV_vi, slV_pu, ne_eq, not_true_eq_false, hz]
    rw [G_loop]
    simp (disch := first | assumption | omega | (simp only [az]; done)) only [ru, eq_self, if_true, if_false, BEq.rfl, binI, AO.row?, splice, fillL, mmAll, loadV, storeV, zeros, Am.rowAt, Am.part, addOff, Nat.reduceAdd, Nat.reduceMul, Nat.reduceLeDiff, Nat.reduceSub, Nat.reduceLT, Int.reduceEq, Int.reduceLT, Int.reduceLE, Int.reduceGT, Int.reduceGE, Int.reduceAdd, Int.reduceSub, Int.reduceMul, Int.reduceNeg, Int.reduceToNat, reduceCtorEq, reduceIte, s16]
  simp only [hA, if_true] at a7 a8
  obtain ⟨X, hX⟩ : ∃ X, X = ndl n n.ancs.length := ⟨_, rfl⟩
  obtain ⟨Y, hY⟩ : ∃ Y, Y = ndl n' n.ancs.length := ⟨_, rfl⟩
  have lX : X.length = n.ancs.length := by rw [hX, ndl_len]
  have lY : Y.length = n.ancs.length := by rw [hY, ndl_len]
  simp only [← hX, ← hY] at a7 a8 nd
  have hz : ¬ (n.ancs.length : Int) > n.ancs.length := by omega
  simp (disch := first | assumption | omega | (simp only [az]; done)) only [ru, eq_self, if_true, if_false, BEq.rfl, binI, AO.row?, splice, fillL, mmAll, loadV, storeV, zeros, Am.rowAt, Am.part, addOff, Nat.reduceAdd, Nat.reduceMul, Nat.reduceLeDiff, Nat.reduceSub, Nat.reduceLT, Int.reduceEq, Int.reduceLT, Int.reduceLE, Int.reduceGT, Int.reduceGE, Int.reduceAdd, Int.reduceSub, Int.reduceMul, Int.reduceNeg, Int.reduceToNat, reduceCtorEq, reduceIte, lenV_sl H.g, lenV_sl H.a, lenV_sl H.w, elem_sl Spn.el H.g, elem_sl Anc.el H.a, elem_sl Wal.el H.w, view_sl H.g, view_sl H.a, view_sl H.w, scalar_sl H.g, scalar_sl H.a, scalar_sl H.w, cells_sl H.g, cells_sl H.a, cells_sl H.w, pure_sl H.g, pure_sl H.a, pure_sl H.w, Spn.e, Anc.e, Wal.e, Spn.eta, Anc.eta, Wal.eta, Int.toNat_natCast, lenV_sl V.s, elem_sl intE V.s, view_sl V.s, scalar_sl V.s, cells_sl V.s, pure_sl V.s, hlt, a7, a8, gUn, slV_sc, slV_ce, slV_vi, slV_pu, resL_sc, resL_ce, resL_vi, resL_pu, lenV_sl (resL_is X), lenV_sl (resL_is Y), lX, lY, ne_eq, not_true_eq_false, hz]
  refine G_loop_ind (fun m ts h mk => ∃ (i : Nat), i ≤ n.ancs.length ∧ m = n.ancs.length - i ∧ ts.length = 204 ∧ ts.getD 28 .undef = resL X ∧ ts.getD 29 .undef = resL Y ∧ ts.getD 30 .undef = I i ∧ mk = []) ?_ _ _ _ _ ⟨0, Nat.zero_le _, rfl, rfl, rfl, rfl, rfl, rfl⟩
  rintro m ts h mk ih ⟨i, hi, rfl, hl, q28, q29, q30, rfl⟩
  rw [lit_all hl]
  simp only [lit0, litS, Nat.reduceAdd, q28, q29, q30]
  simp (disch := first | assumption | omega | (simp only [az]; done)) only [ru, eq_self, if_true, if_false, BEq.rfl, binI, AO.row?, splice, fillL, mmAll, loadV, storeV, zeros, Am.rowAt, Am.part, addOff, Nat.reduceAdd, Nat.reduceMul, Nat.reduceLeDiff, Nat.reduceSub, Nat.reduceLT, Int.reduceEq, Int.reduceLT, Int.reduceLE, Int.reduceGT, Int.reduceGE, Int.reduceAdd, Int.reduceSub, Int.reduceMul, Int.reduceNeg, Int.reduceToNat, reduceCtorEq, reduceIte, lenV_sl (resL_is X), lX]
  by_cases hlt : (i : Int) < n.ancs.length
  case pos =>
    have hi' : i < n.ancs.length := by omega
    have htn : ((n.ancs.length : Int) - 1 - (i : Int)).toNat = n.ancs.length - 1 - i := by omega
    have e := nd i hi'
    simp (disch := first | assumption | omega | (simp only [az]; done)) only [ru, eq_self, if_true, if_false, BEq.rfl, binI, AO.row?, splice, fillL, mmAll, loadV, storeV, zeros, Am.rowAt, Am.part, addOff, Nat.reduceAdd, Nat.reduceMul, Nat.reduceLeDiff, Nat.reduceSub, Nat.reduceLT, Int.reduceEq, Int.reduceLT, Int.reduceLE, Int.reduceGT, Int.reduceGE, Int.reduceAdd, Int.reduceSub, Int.reduceMul, Int.reduceNeg, Int.reduceToNat, reduceCtorEq, reduceIte, hlt, elem_sl intE (resL_is X), elem_sl intE (resL_is Y), lenV_sl (resL_is Y), lX, lY, Int.toNat_natCast, htn, e, ne_eq, not_true_eq_false]
    exact ih (n.ancs.length - (i + 1)) _ _ _ (by omega) ⟨i + 1, by omega, rfl, rfl, rfl, rfl, rfl, rfl⟩
  simp (disch := first | assumption | omega | (simp only [az]; done)) only [ru, eq_self, if_true, if_false, BEq.rfl, binI, AO.row?, splice, fillL, mmAll, loadV, storeV, zeros, Am.rowAt, Am.part, addOff, Nat.reduceAdd, Nat.reduceMul, Nat.reduceLeDiff, Nat.reduceSub, Nat.reduceLT, Int.reduceEq, Int.reduceLT, Int.reduceLE, Int.reduceGT, Int.reduceGE, Int.reduceAdd, Int.reduceSub, Int.reduceMul, Int.reduceNeg, Int.reduceToNat, reduceCtorEq, reduceIte, hlt, s16]
end Go.Proofs.Ytpflneddfhifkaa.S
