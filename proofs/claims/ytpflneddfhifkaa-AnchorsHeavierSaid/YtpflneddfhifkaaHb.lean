/-
The law of stage 2 on the heavier anchor.
-/
import Derived.Test.YtpflneddfhifkaaHm
namespace Go.Proofs.Ytpflneddfhifkaa.S
open Go Go.Am Go.Proofs.Ytpflneddfhifkaa.T
set_option maxRecDepth 100000
set_option linter.unusedSimpArgs false
set_option linter.unusedVariables false

set_option maxHeartbeats 4000000 in
theorem s10 {n : Net} {g a w : AV} (H0 : NetIn n g a w) {t : Tru} {v : AV} (V0 : TruIn t v) (x y : Int) (st : Bool) : Iso E 10 [netV n g a w, .agg [I t.wind, I t.cur, v], .agg [I x, I y]] st = some (Bo true) := by
  refine Iso_of (es _ _ _ _) e10 ?_
  simp only [f10, netV]
  by_cases hs : smallN n
  case neg =>
    simp (disch := first | assumption | omega | (simp only [az]; done)) only [ru, eq_self, if_true, if_false, BEq.rfl, binI, AO.row?, splice, fillL, mmAll, loadV, storeV, zeros, Am.rowAt, Am.part, addOff, Nat.reduceAdd, Nat.reduceMul, Nat.reduceLeDiff, Nat.reduceSub, Nat.reduceLT, Int.reduceEq, Int.reduceLT, Int.reduceLE, Int.reduceGT, Int.reduceGE, Int.reduceAdd, Int.reduceSub, Int.reduceMul, Int.reduceNeg, Int.reduceToNat, reduceCtorEq, reduceIte, s51h H0 hs V0, view_sl H0.g, view_sl H0.a, view_sl H0.w, view_sl V0.s, gUn, s16]
  have H : NetOk n g a w := ⟨H0.g, H0.a, H0.w, hs.1, hs.2.1, hs.2.2⟩
  have sa := H.sa
  cases hg : gvn n t
  · simp (disch := first | assumption | omega | (simp only [az]; done)) only [ru, eq_self, if_true, if_false, BEq.rfl, binI, AO.row?, splice, fillL, mmAll, loadV, storeV, zeros, Am.rowAt, Am.part, addOff, Nat.reduceAdd, Nat.reduceMul, Nat.reduceLeDiff, Nat.reduceSub, Nat.reduceLT, Int.reduceEq, Int.reduceLT, Int.reduceLE, Int.reduceGT, Int.reduceGE, Int.reduceAdd, Int.reduceSub, Int.reduceMul, Int.reduceNeg, Int.reduceToNat, reduceCtorEq, reduceIte, lenV_sl H.g, lenV_sl H.a, lenV_sl H.w, elem_sl Spn.el H.g, elem_sl Anc.el H.a, elem_sl Wal.el H.w, view_sl H.g, view_sl H.a, view_sl H.w, scalar_sl H.g, scalar_sl H.a, scalar_sl H.w, cells_sl H.g, cells_sl H.a, cells_sl H.w, pure_sl H.g, pure_sl H.a, pure_sl H.w, Spn.e, Anc.e, Wal.e, Spn.eta, Anc.eta, Wal.eta, Int.toNat_natCast, s51 H V0, view_sl V0.s, hg, gUn, s16]
  have G := gvn_good hg
  have V : TruOk t v := ⟨V0.s, gvn_l hg⟩
  cases hx : inR x 0 ((n.ancs.length : Int) - 1)
  · simp (disch := first | assumption | omega | (simp only [az]; done)) only [ru, eq_self, if_true, if_false, BEq.rfl, binI, AO.row?, splice, fillL, mmAll, loadV, storeV, zeros, Am.rowAt, Am.part, addOff, Nat.reduceAdd, Nat.reduceMul, Nat.reduceLeDiff, Nat.reduceSub, Nat.reduceLT, Int.reduceEq, Int.reduceLT, Int.reduceLE, Int.reduceGT, Int.reduceGE, Int.reduceAdd, Int.reduceSub, Int.reduceMul, Int.reduceNeg, Int.reduceToNat, reduceCtorEq, reduceIte, lenV_sl H.g, lenV_sl H.a, lenV_sl H.w, elem_sl Spn.el H.g, elem_sl Anc.el H.a, elem_sl Wal.el H.w, view_sl H.g, view_sl H.a, view_sl H.w, scalar_sl H.g, scalar_sl H.a, scalar_sl H.w, cells_sl H.g, cells_sl H.a, cells_sl H.w, pure_sl H.g, pure_sl H.a, pure_sl H.w, Spn.e, Anc.e, Wal.e, Spn.eta, Anc.eta, Wal.eta, Int.toNat_natCast, lenV_sl V.s, elem_sl intE V.s, view_sl V.s, scalar_sl V.s, cells_sl V.s, pure_sl V.s, s51 H V0, hg, s57 H, hx, gUn, s16]
  have hx' := inR_iff.1 hx
  obtain ⟨k, rfl⟩ : ∃ k : Nat, x = k := ⟨x.toNat, by omega⟩
  have hk : k < n.ancs.length := by omega
  have hk' : (k : Int) < n.ancs.length := by omega
  obtain ⟨w0, w1, b0, b1, _⟩ := good_anc G.toFair hk
  cases hy : inR y 0 (20 - (n.ancs.getD k default).w)
  · simp (disch := first | assumption | omega | (simp only [az]; done)) only [ru, eq_self, if_true, if_false, BEq.rfl, binI, AO.row?, splice, fillL, mmAll, loadV, storeV, zeros, Am.rowAt, Am.part, addOff, Nat.reduceAdd, Nat.reduceMul, Nat.reduceLeDiff, Nat.reduceSub, Nat.reduceLT, Int.reduceEq, Int.reduceLT, Int.reduceLE, Int.reduceGT, Int.reduceGE, Int.reduceAdd, Int.reduceSub, Int.reduceMul, Int.reduceNeg, Int.reduceToNat, reduceCtorEq, reduceIte, lenV_sl H.g, lenV_sl H.a, lenV_sl H.w, elem_sl Spn.el H.g, elem_sl Anc.el H.a, elem_sl Wal.el H.w, view_sl H.g, view_sl H.a, view_sl H.w, scalar_sl H.g, scalar_sl H.a, scalar_sl H.w, cells_sl H.g, cells_sl H.a, cells_sl H.w, pure_sl H.g, pure_sl H.a, pure_sl H.w, Spn.e, Anc.e, Wal.e, Spn.eta, Anc.eta, Wal.eta, Int.toNat_natCast, lenV_sl V.s, elem_sl intE V.s, view_sl V.s, scalar_sl V.s, cells_sl V.s, pure_sl V.s, s51 H V0, hg, s57 H, hx, hk', s58, hy, gUn, s16]
  have hy' := inR_iff.1 hy
  have hv' : (heavy n k y).valid = true := heavy_valid G.v hk (by omega) (by omega)
  have a0 := fun st => s59 H hk (x := y) (by omega) (by omega) st
  have H' : NetOk (heavy n k y) (slV 2 Spn.e (heavy n k y).grips) (slV 2 Anc.e (heavy n k y).ancs) (slV 5 Wal.e (heavy n k y).walls) := ⟨slV_is, slV_is, slV_is, H.sg, by rw [heavy_len]; exact H.sa, H.sw⟩
  have a1 := s52 H V G
  have a2 := s52 H' V (heavy_good G hv')
  have a3 := fun st => s43 H G.v st
  have a4 := fun st => s43 H' hv' st
  have a5 := fun st => s45 H G.v st
  have a6 := fun st => s45 H' hv' st
  have part := lst_part (heavy_lfp (k := k) (x := y) G.toFair hv' hk hy'.1)
  have hd := fun i (hi : i < n.ancs.length) => heavy_drag (k := k) (x := y) G.v hv' hk hy'.1 hi
  have l1 := heavy_lw (k := k) (x := y) (rough_good G.v).toFair hk hy'.1
  have l2 := heavy_lw (k := k) (x := y) (calm_good G.v).toFair hk hy'.1
  rw [heavy_lst] at a2
  have e1 : calm (heavy n k y) = calm n := rfl
  have e2 : rough (heavy n k y) = rough n := rfl
  have D1 := fun i hi st => s37 H G.v (i := i) hi st
  have D2 := fun i hi st => s37 H' hv' (i := i) hi st
  rw [heavy_len] at D2
  rw [e1] at a6
  rw [e2] at a4
  obtain ⟨n', hn'⟩ : ∃ n', n' = heavy n k y := ⟨_, rfl⟩
  rw [← hn'] at a2 H' part l1 l2
  simp only [← hn'] at a0 a4 a6 hd D2
  obtain ⟨K, hK⟩ : ∃ K, K = lst n (lfp n t none6) := ⟨_, rfl⟩
  obtain ⟨L, hL⟩ : ∃ L, L = lst n (lfp n' t none6) := ⟨_, rfl⟩
  obtain ⟨r, hr⟩ : ∃ r, r = lw n (rough n) := ⟨_, rfl⟩
  obtain ⟨c, hc⟩ : ∃ c, c = lw n (calm n) := ⟨_, rfl⟩
  obtain ⟨r', hr'⟩ : ∃ r', r' = lw n' (rough n) := ⟨_, rfl⟩
  obtain ⟨c', hc'⟩ : ∃ c', c' = lw n' (calm n) := ⟨_, rfl⟩
  have lK : K.length ≤ n.ancs.length := by rw [hK]; exact lst_le
  have lL : L.length ≤ n.ancs.length := by rw [hL]; exact lst_le
  rw [← hK] at a1 part
  rw [← hL] at a2 part
  rw [← hr, ← hr'] at l1
  rw [← hc, ← hc'] at l2
  simp only [← hr] at a3
  simp only [← hr'] at a4
  simp only [← hc] at a5
  simp only [← hc'] at a6
  simp only [netC, netV] at a0 a2 a4 a6 D2
  have b3 := fun st => s54 (resL_is L) (resL_is K) (by omega) (by omega) part st
  have key : ((we r' = 3 ∧ True) ∨ (we r' = 0 ∧ we r = 0 ∧ ¬ wv r' < wv r)) ∧ ((we c' = 3 ∧ True) ∨ (we c' = 0 ∧ we c = 0 ∧ ¬ wv c' < wv c)) := by
    unfold we wv
    refine ⟨?_, ?_⟩
    · by_cases h : (r' : Int) > 20
      · left; exact ⟨by rw [if_pos h], trivial⟩
      · right; refine ⟨by rw [if_neg h], by rw [if_neg (by omega)], ?_⟩
        rw [if_neg h, if_neg (by omega)]; omega
    · by_cases h : (c' : Int) > 20
      · left; exact ⟨by rw [if_pos h], trivial⟩
      · right; refine ⟨by rw [if_neg h], by rw [if_neg (by omega)], ?_⟩
        rw [if_neg h, if_neg (by omega)]; omega
  obtain ⟨k1, k2⟩ := key
  simp (disch := first | assumption | omega | (simp only [az]; done)) only [ru, eq_self, if_true, if_false, BEq.rfl, binI, AO.row?, splice, fillL, mmAll, loadV, storeV, zeros, Am.rowAt, Am.part, addOff, Nat.reduceAdd, Nat.reduceMul, Nat.reduceLeDiff, Nat.reduceSub, Nat.reduceLT, Int.reduceEq, Int.reduceLT, Int.reduceLE, Int.reduceGT, Int.reduceGE, Int.reduceAdd, Int.reduceSub, Int.reduceMul, Int.reduceNeg, Int.reduceToNat, reduceCtorEq, reduceIte, lenV_sl H.g, lenV_sl H.a, lenV_sl H.w, elem_sl Spn.el H.g, elem_sl Anc.el H.a, elem_sl Wal.el H.w, view_sl H.g, view_sl H.a, view_sl H.w, scalar_sl H.g, scalar_sl H.a, scalar_sl H.w, cells_sl H.g, cells_sl H.a, cells_sl H.w, pure_sl H.g, pure_sl H.a, pure_sl H.w, Spn.e, Anc.e, Wal.e, Spn.eta, Anc.eta, Wal.eta, Int.toNat_natCast, lenV_sl V.s, elem_sl intE V.s, view_sl V.s, scalar_sl V.s, cells_sl V.s, pure_sl V.s, s51 H V0, hg, s57 H, hx, hk', s58, hy, gUn, a0, slV_sc, slV_ce, slV_vi, slV_pu, a1, a2, a3, a4, a5, a6, b3, resL_vi]
  rcases k1 with ⟨k3, k4⟩ | ⟨k3, k4, k5⟩ <;> rcases k2 with ⟨k6, k7⟩ | ⟨k6, k7, k8⟩
  all_goals
    first
      | simp (disch := first | assumption | omega | (simp only [az]; done)) only [ru, eq_self, if_true, if_false, BEq.rfl, binI, AO.row?, splice, fillL, mmAll, loadV, storeV, zeros, Am.rowAt, Am.part, addOff, Nat.reduceAdd, Nat.reduceMul, Nat.reduceLeDiff, Nat.reduceSub, Nat.reduceLT, Int.reduceEq, Int.reduceLT, Int.reduceLE, Int.reduceGT, Int.reduceGE, Int.reduceAdd, Int.reduceSub, Int.reduceMul, Int.reduceNeg, Int.reduceToNat, reduceCtorEq, reduceIte, k3, k4, k5, k6, k7, k8, gUn]
      | simp (disch := first | assumption | omega | (simp only [az]; done)) only [ru, eq_self, if_true, if_false, BEq.rfl, binI, AO.row?, splice, fillL, mmAll, loadV, storeV, zeros, Am.rowAt, Am.part, addOff, Nat.reduceAdd, Nat.reduceMul, Nat.reduceLeDiff, Nat.reduceSub, Nat.reduceLT, Int.reduceEq, Int.reduceLT, Int.reduceLE, Int.reduceGT, Int.reduceGE, Int.reduceAdd, Int.reduceSub, Int.reduceMul, Int.reduceNeg, Int.reduceToNat, reduceCtorEq, reduceIte, k3, k4, k5, k6, gUn]
      | simp (disch := first | assumption | omega | (simp only [az]; done)) only [ru, eq_self, if_true, if_false, BEq.rfl, binI, AO.row?, splice, fillL, mmAll, loadV, storeV, zeros, Am.rowAt, Am.part, addOff, Nat.reduceAdd, Nat.reduceMul, Nat.reduceLeDiff, Nat.reduceSub, Nat.reduceLT, Int.reduceEq, Int.reduceLT, Int.reduceLE, Int.reduceGT, Int.reduceGE, Int.reduceAdd, Int.reduceSub, Int.reduceMul, Int.reduceNeg, Int.reduceToNat, reduceCtorEq, reduceIte, k3, k6, k7, k8, gUn]
      | simp (disch := first | assumption | omega | (simp only [az]; done)) only [ru, eq_self, if_true, if_false, BEq.rfl, binI, AO.row?, splice, fillL, mmAll, loadV, storeV, zeros, Am.rowAt, Am.part, addOff, Nat.reduceAdd, Nat.reduceMul, Nat.reduceLeDiff, Nat.reduceSub, Nat.reduceLT, Int.reduceEq, Int.reduceLT, Int.reduceLE, Int.reduceGT, Int.reduceGE, Int.reduceAdd, Int.reduceSub, Int.reduceMul, Int.reduceNeg, Int.reduceToNat, reduceCtorEq, reduceIte, k3, k6, gUn]
    refine G_loop_ind (fun m ts h mk => ∃ i : Nat, i ≤ n.ancs.length ∧ m = n.ancs.length - i ∧ ts.length = 167 ∧ ts.getD 3 .undef = .ptr 0 0 ∧ ts.getD 7 .undef = .ptr 3 0 ∧ ts.getD 20 .undef = I i ∧
      h = [.cells [I n.wind.lo, I n.wind.hi, I n.cur.lo, I n.cur.hi, g, a, w] false, .cells [I t.wind, I t.cur, v] false, .cells [I k, I y] false, .cells [I n'.wind.lo, I n'.wind.hi, I n'.cur.lo, I n'.cur.hi, slV 2 Spn.e n'.grips, slV 2 Anc.e n'.ancs, slV 5 Wal.e n'.walls] false] ∧ mk = []) ?_ _ _ _ _ ⟨0, Nat.zero_le _, rfl, rfl, rfl, rfl, rfl, rfl, rfl⟩
    rintro m ts h mk ih ⟨i, hi, rfl, hl, q3, q7, q20, rfl, rfl⟩
    rw [lit_all hl]
    simp only [lit0, litS, Nat.reduceAdd, q3, q7, q20]
    simp (disch := first | assumption | omega | (simp only [az]; done)) only [ru, eq_self, if_true, if_false, BEq.rfl, binI, AO.row?, splice, fillL, mmAll, loadV, storeV, zeros, Am.rowAt, Am.part, addOff, Nat.reduceAdd, Nat.reduceMul, Nat.reduceLeDiff, Nat.reduceSub, Nat.reduceLT, Int.reduceEq, Int.reduceLT, Int.reduceLE, Int.reduceGT, Int.reduceGE, Int.reduceAdd, Int.reduceSub, Int.reduceMul, Int.reduceNeg, Int.reduceToNat, reduceCtorEq, reduceIte, lenV_sl H.g, lenV_sl H.a, lenV_sl H.w, elem_sl Spn.el H.g, elem_sl Anc.el H.a, elem_sl Wal.el H.w, view_sl H.g, view_sl H.a, view_sl H.w, scalar_sl H.g, scalar_sl H.a, scalar_sl H.w, cells_sl H.g, cells_sl H.a, cells_sl H.w, pure_sl H.g, pure_sl H.a, pure_sl H.w, Spn.e, Anc.e, Wal.e, Spn.eta, Anc.eta, Wal.eta, Int.toNat_natCast]
    by_cases hlt : (i : Int) < n.ancs.length
    case pos =>
      have hi' : i < n.ancs.length := by omega
      have c1 := fun st => D1 i hi' st
      have c2 := fun st => D2 i hi' st
      obtain ⟨p, q, hp, hq, hpq⟩ := hd i hi'
      simp only [← hp] at c1
      simp only [← hq] at c2
      rcases hpq with ⟨d1, d2⟩ | ⟨d1, d2⟩ | ⟨d1, d2⟩ | ⟨d1, d2⟩ | ⟨d1, d2⟩ | ⟨d1, d2⟩
      all_goals
        simp (disch := first | assumption | omega | (simp only [az]; done)) only [ru, eq_self, if_true, if_false, BEq.rfl, binI, AO.row?, splice, fillL, mmAll, loadV, storeV, zeros, Am.rowAt, Am.part, addOff, Nat.reduceAdd, Nat.reduceMul, Nat.reduceLeDiff, Nat.reduceSub, Nat.reduceLT, Int.reduceEq, Int.reduceLT, Int.reduceLE, Int.reduceGT, Int.reduceGE, Int.reduceAdd, Int.reduceSub, Int.reduceMul, Int.reduceNeg, Int.reduceToNat, reduceCtorEq, reduceIte, lenV_sl H.g, lenV_sl H.a, lenV_sl H.w, elem_sl Spn.el H.g, elem_sl Anc.el H.a, elem_sl Wal.el H.w, view_sl H.g, view_sl H.a, view_sl H.w, scalar_sl H.g, scalar_sl H.a, scalar_sl H.w, cells_sl H.g, cells_sl H.a, cells_sl H.w, pure_sl H.g, pure_sl H.a, pure_sl H.w, Spn.e, Anc.e, Wal.e, Spn.eta, Anc.eta, Wal.eta, Int.toNat_natCast, lenV_sl V.s, elem_sl intE V.s, view_sl V.s, scalar_sl V.s, cells_sl V.s, pure_sl V.s, hlt, c1, c2, d1, d2, gUn, slV_sc, slV_ce, slV_vi, slV_pu]
        exact ih (n.ancs.length - (i + 1)) _ _ _ (by omega) ⟨i + 1, by omega, rfl, rfl, rfl, rfl, rfl, rfl, rfl⟩
    simp (disch := first | assumption | omega | (simp only [az]; done)) only [ru, eq_self, if_true, if_false, BEq.rfl, binI, AO.row?, splice, fillL, mmAll, loadV, storeV, zeros, Am.rowAt, Am.part, addOff, Nat.reduceAdd, Nat.reduceMul, Nat.reduceLeDiff, Nat.reduceSub, Nat.reduceLT, Int.reduceEq, Int.reduceLT, Int.reduceLE, Int.reduceGT, Int.reduceGE, Int.reduceAdd, Int.reduceSub, Int.reduceMul, Int.reduceNeg, Int.reduceToNat, reduceCtorEq, reduceIte, hlt, s16]

theorem z65 : Try.prog.cellsOf 65 = 2 := by kernel_rfl
theorem wfMore {d : Nat} {c : List AV} (h : WfC Try.prog (d + 2) 65 c) : ∃ x y : Int, c = [I x, I y] := by
  obtain ⟨hl, hf⟩ := wf_struct Try.underlying65 h
  rw [z65] at hl
  match c, hl with
  | [x, y], _ =>
    have h0 : WfC Try.prog (d + 1) 3 (([x, y].drop 0).take (Try.prog.cellsOf 3)) := hf 0 _ rfl
    have h1 : WfC Try.prog (d + 1) 3 (([x, y].drop 1).take (Try.prog.cellsOf 3)) := hf 1 _ rfl
    rw [z3] at h0
    rw [z3] at h1
    obtain ⟨i, rfl, hi⟩ := wfI (show WfC Try.prog (d + 1) 3 [x] from h0)
    obtain ⟨j, rfl, hj⟩ := wfI (show WfC Try.prog (d + 1) 3 [y] from h1)
    exact ⟨i, j, rfl⟩
end Go.Proofs.Ytpflneddfhifkaa.S
