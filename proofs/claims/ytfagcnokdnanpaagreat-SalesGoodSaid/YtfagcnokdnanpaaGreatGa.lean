/-
SalesGood: equal fairs, the specification's Ready and Good.
-/
import Derived.Test.YtfagcnokdnanpaaGreatFv
namespace Go.Proofs.YtfagcnokdnanpaaGreat.S
open Go Go.Am Go.Proofs.YtfagcnokdnanpaaGreat.T
set_option maxRecDepth 100000
set_option linter.unusedSimpArgs false
set_option linter.unusedVariables false

section
variable {f : Fs} {k p b pv bv : AV} {w : Nat → AV}
set_option maxHeartbeats 2000000 in
theorem t43 {k' p' b' pv' bv' : AV} {w' : Nat → AV} (H : FsOk f k p b pv bv w) (H' : FsOk f k' p' b' pv' bv' w') (st : Bool) : Iso E 43 [frV f k p b pv bv, frV f k' p' b' pv' bv'] st = some (Bo true) := by
  have nb := H.nb; have np := H.np
  have a78 := fun st => s27 H.ho H'.ho st
  have a35 := fun st => s28 H.pk H'.pk (by omega) st
  simp only [hsV] at a78
  refine Iso_of (es _ _ _ _) e43 ?_
  simp only [f43, frV]
  simp (disch := first | assumption | omega | (simp only [az]; done)) only [ru, eq_self, if_true, if_false, BEq.rfl, binI, AO.row?, splice, fillL, mmAll, loadV, storeV, zeros, Am.rowAt, Am.part, addOff, Nat.reduceAdd, Nat.reduceMul, Nat.reduceLeDiff, Nat.reduceSub, Nat.reduceLT, Int.reduceEq, Int.reduceLT, Int.reduceLE, Int.reduceGT, Int.reduceGE, Int.reduceAdd, Int.reduceSub, Int.reduceMul, Int.reduceNeg, Int.reduceToNat, reduceCtorEq, reduceIte, lenV_sl H.h.k, lenV_sl H.h.p, lenV_sl H.h.b, elem_kd H.h.k, elem_pr H.h.p, elem_in H.h.b, view_sl H.h.k, view_sl H.h.p, view_sl H.h.b, scalar_sl H.h.k, scalar_sl H.h.p, scalar_sl H.h.b, cells_sl H.h.k, cells_sl H.h.p, cells_sl H.h.b, pure_sl H.h.k, pure_sl H.h.p, pure_sl H.h.b, Int.toNat_natCast, lenV_sl H.pk, view_sl H.pk, scalar_sl H.pk, cells_sl H.pk, pure_sl H.pk, H.bi.len, H.bi.sc, H.bi.ce, H.bi.pu, H.bi.vw, lenV_sl H'.h.k, lenV_sl H'.h.p, lenV_sl H'.h.b, elem_kd H'.h.k, elem_pr H'.h.p, elem_in H'.h.b, view_sl H'.h.k, view_sl H'.h.p, view_sl H'.h.b, scalar_sl H'.h.k, scalar_sl H'.h.p, scalar_sl H'.h.b, cells_sl H'.h.k, cells_sl H'.h.p, cells_sl H'.h.b, pure_sl H'.h.k, pure_sl H'.h.p, pure_sl H'.h.b, Int.toNat_natCast, lenV_sl H'.pk, view_sl H'.pk, scalar_sl H'.pk, cells_sl H'.pk, pure_sl H'.pk, H'.bi.len, H'.bi.sc, H'.bi.ce, H'.bi.pu, H'.bi.vw, a78, a35, gUn, decide_true, Bool.not_true, bne_self_eq_false]
  refine G_loop_ind (fun m ts hk mk => ∃ i : Nat, i ≤ f.bids.length ∧ m = f.bids.length - i ∧ 2 ≤ hk.length ∧ hk[0]? = some (.cells [k, I f.h.fl, p, b, pv, I f.d, I f.n, bv] false) ∧ hk[1]? = some (.cells [k', I f.h.fl, p', b', pv', I f.d, I f.n, bv'] false) ∧
      ts.length = 82 ∧ ts.getD 2 .undef = .ptr 0 0 ∧ ts.getD 3 .undef = .ptr 1 0 ∧ ts.getD 5 .undef = I i ∧ mk = []) ?_ f.bids.length _ _ _
    ⟨0, Nat.zero_le _, rfl, by simp, rfl, rfl, rfl, rfl, rfl, rfl, rfl⟩
  rintro m ts hk mk ih ⟨i, hi, rfl, hle, c0, c1, hl', q2, q3, q5, rfl⟩
  rw [lit_all hl']
  simp only [lit0, litS, Nat.reduceAdd, q2, q3, q5]
  simp (disch := first | assumption | omega | (simp only [az]; done)) only [ru, eq_self, if_true, if_false, BEq.rfl, binI, AO.row?, splice, fillL, mmAll, loadV, storeV, zeros, Am.rowAt, Am.part, addOff, Nat.reduceAdd, Nat.reduceMul, Nat.reduceLeDiff, Nat.reduceSub, Nat.reduceLT, Int.reduceEq, Int.reduceLT, Int.reduceLE, Int.reduceGT, Int.reduceGE, Int.reduceAdd, Int.reduceSub, Int.reduceMul, Int.reduceNeg, Int.reduceToNat, reduceCtorEq, reduceIte, lenV_sl H.h.k, lenV_sl H.h.p, lenV_sl H.h.b, elem_kd H.h.k, elem_pr H.h.p, elem_in H.h.b, view_sl H.h.k, view_sl H.h.p, view_sl H.h.b, scalar_sl H.h.k, scalar_sl H.h.p, scalar_sl H.h.b, cells_sl H.h.k, cells_sl H.h.p, cells_sl H.h.b, pure_sl H.h.k, pure_sl H.h.p, pure_sl H.h.b, Int.toNat_natCast, lenV_sl H.pk, view_sl H.pk, scalar_sl H.pk, cells_sl H.pk, pure_sl H.pk, H.bi.len, H.bi.sc, H.bi.ce, H.bi.pu, H.bi.vw, lenV_sl H'.h.k, lenV_sl H'.h.p, lenV_sl H'.h.b, elem_kd H'.h.k, elem_pr H'.h.p, elem_in H'.h.b, view_sl H'.h.k, view_sl H'.h.p, view_sl H'.h.b, scalar_sl H'.h.k, scalar_sl H'.h.p, scalar_sl H'.h.b, cells_sl H'.h.k, cells_sl H'.h.p, cells_sl H'.h.b, pure_sl H'.h.k, pure_sl H'.h.p, pure_sl H'.h.b, Int.toNat_natCast, lenV_sl H'.pk, view_sl H'.pk, scalar_sl H'.pk, cells_sl H'.pk, pure_sl H'.pk, H'.bi.len, H'.bi.sc, H'.bi.ce, H'.bi.pu, H'.bi.vw, c0, c1]
  by_cases hlt : (i : Int) < f.bids.length
  case neg => simp (disch := first | assumption | omega | (simp only [az]; done)) only [ru, eq_self, if_true, if_false, BEq.rfl, binI, AO.row?, splice, fillL, mmAll, loadV, storeV, zeros, Am.rowAt, Am.part, addOff, Nat.reduceAdd, Nat.reduceMul, Nat.reduceLeDiff, Nat.reduceSub, Nat.reduceLT, Int.reduceEq, Int.reduceLT, Int.reduceLE, Int.reduceGT, Int.reduceGE, Int.reduceAdd, Int.reduceSub, Int.reduceMul, Int.reduceNeg, Int.reduceToNat, reduceCtorEq, reduceIte, hlt]
  have hi' : i < f.bids.length := by omega
  have eb := H.bi.el i (by omega) hlt
  have eb' := H'.bi.el i (by omega) hlt
  obtain ⟨W, lW⟩ := bAt_w H (i := (i : Int)) (by omega) hlt
  obtain ⟨W', _⟩ := bAt_w H' (i := (i : Int)) (by omega) hlt
  rw [Int.toNat_natCast] at W W' eb eb'
  have a35b := fun st => s28 W W' (by omega) st
  have aN : ∀ (l : List AO) j, (hk ++ l)[hk.length + j]? = l[j]? := fun l j => atT
  have a0 : ∀ (l : List AO), (hk ++ l)[hk.length]? = l[0]? := fun l => atT0
  have sN : ∀ (l : List AO) j x, (hk ++ l).set (hk.length + j) x = hk ++ l.set j x := fun l j x => setT
  have s0 : ∀ (l : List AO) x, (hk ++ l).set hk.length x = hk ++ l.set 0 x := fun l x => setT0
  have b0 : ∀ (l : List AO), (hk ++ l)[0]? = some (.cells [k, I f.h.fl, p, b, pv, I f.d, I f.n, bv] false) := fun l => by rw [at_ap (by omega)]; exact c0
  have b1 : ∀ (l : List AO), (hk ++ l)[1]? = some (.cells [k', I f.h.fl, p', b', pv', I f.d, I f.n, bv'] false) := fun l => by rw [at_ap (by omega)]; exact c1
  simp (disch := first | assumption | omega | (simp only [az]; done)) only [ru, eq_self, if_true, if_false, BEq.rfl, binI, AO.row?, splice, fillL, mmAll, loadV, storeV, zeros, Am.rowAt, Am.part, addOff, Nat.reduceAdd, Nat.reduceMul, Nat.reduceLeDiff, Nat.reduceSub, Nat.reduceLT, Int.reduceEq, Int.reduceLT, Int.reduceLE, Int.reduceGT, Int.reduceGE, Int.reduceAdd, Int.reduceSub, Int.reduceMul, Int.reduceNeg, Int.reduceToNat, reduceCtorEq, reduceIte, lenV_sl H.h.k, lenV_sl H.h.p, lenV_sl H.h.b, elem_kd H.h.k, elem_pr H.h.p, elem_in H.h.b, view_sl H.h.k, view_sl H.h.p, view_sl H.h.b, scalar_sl H.h.k, scalar_sl H.h.p, scalar_sl H.h.b, cells_sl H.h.k, cells_sl H.h.p, cells_sl H.h.b, pure_sl H.h.k, pure_sl H.h.p, pure_sl H.h.b, Int.toNat_natCast, lenV_sl H.pk, view_sl H.pk, scalar_sl H.pk, cells_sl H.pk, pure_sl H.pk, H.bi.len, H.bi.sc, H.bi.ce, H.bi.pu, H.bi.vw, lenV_sl H'.h.k, lenV_sl H'.h.p, lenV_sl H'.h.b, elem_kd H'.h.k, elem_pr H'.h.p, elem_in H'.h.b, view_sl H'.h.k, view_sl H'.h.p, view_sl H'.h.b, scalar_sl H'.h.k, scalar_sl H'.h.p, scalar_sl H'.h.b, cells_sl H'.h.k, cells_sl H'.h.p, cells_sl H'.h.b, pure_sl H'.h.k, pure_sl H'.h.p, pure_sl H'.h.b, Int.toNat_natCast, lenV_sl H'.pk, view_sl H'.pk, scalar_sl H'.pk, cells_sl H'.pk, pure_sl H'.pk, H'.bi.len, H'.bi.sc, H'.bi.ce, H'.bi.pu, H'.bi.vw, lenV_sl W, view_sl W, scalar_sl W, cells_sl W, pure_sl W, lenV_sl W', view_sl W', scalar_sl W', cells_sl W', pure_sl W', c0, c1, b0, b1, hlt, eb, eb', a35b, List.append_assoc, List.cons_append, List.nil_append, List.length_append, List.length_cons, List.length_nil, Nat.zero_add, Nat.add_assoc, aN, a0, sN, s0, List.getElem?_cons_succ, List.getElem?_cons_zero, List.set_cons_succ, List.set_cons_zero, Nat.zero_le, gUn, bne_self_eq_false, Bool.not_true]
  refine ih (f.bids.length - (i + 1)) _ _ _ (by omega) ⟨i + 1, by omega, rfl, by simp, b0 _, b1 _, rfl, rfl, rfl, rfl, rfl⟩
theorem t41 (H : FsOk f k p b pv bv w) : Iso E 41 [frV f k p b pv bv] false = some (.tup [if f.valid then resL (rdL f) else .nils, I (fE f.valid)]) := by
  have a39 := fun st => t39 H st
  simp only [frV] at a39
  refine Iso_of (es _ _ _ _) e41 ?_
  simp only [f41]
  cases hv : f.valid
  · rw [hv] at a39
    simp only [fE_f] at a39
    simp (disch := first | assumption | omega | (simp only [az]; done)) only [ru, eq_self, if_true, if_false, BEq.rfl, binI, AO.row?, splice, fillL, mmAll, loadV, storeV, zeros, Am.rowAt, Am.part, addOff, Nat.reduceAdd, Nat.reduceMul, Nat.reduceLeDiff, Nat.reduceSub, Nat.reduceLT, Int.reduceEq, Int.reduceLT, Int.reduceLE, Int.reduceGT, Int.reduceGE, Int.reduceAdd, Int.reduceSub, Int.reduceMul, Int.reduceNeg, Int.reduceToNat, reduceCtorEq, reduceIte, lenV_sl H.h.k, lenV_sl H.h.p, lenV_sl H.h.b, elem_kd H.h.k, elem_pr H.h.p, elem_in H.h.b, view_sl H.h.k, view_sl H.h.p, view_sl H.h.b, scalar_sl H.h.k, scalar_sl H.h.p, scalar_sl H.h.b, cells_sl H.h.k, cells_sl H.h.p, cells_sl H.h.b, pure_sl H.h.k, pure_sl H.h.p, pure_sl H.h.b, Int.toNat_natCast, lenV_sl H.pk, view_sl H.pk, scalar_sl H.pk, cells_sl H.pk, pure_sl H.pk, H.bi.len, H.bi.sc, H.bi.ce, H.bi.pu, H.bi.vw, a39, fin2]
    try rfl
  · rw [hv] at a39
    simp only [fE_t] at a39
    have G := fvalid_iff hv
    have a59 := fun st => t59 H G st
    simp only [frV] at a59
    obtain ⟨u, hu⟩ : ∃ u, u = resL (rdL f) := ⟨_, rfl⟩
    have U : IsSl 1 intL (rdL f) u := by rw [hu]; exact resL_is _
    rw [← hu] at a59
    simp (disch := first | assumption | omega | (simp only [az]; done)) only [ru, eq_self, if_true, if_false, BEq.rfl, binI, AO.row?, splice, fillL, mmAll, loadV, storeV, zeros, Am.rowAt, Am.part, addOff, Nat.reduceAdd, Nat.reduceMul, Nat.reduceLeDiff, Nat.reduceSub, Nat.reduceLT, Int.reduceEq, Int.reduceLT, Int.reduceLE, Int.reduceGT, Int.reduceGE, Int.reduceAdd, Int.reduceSub, Int.reduceMul, Int.reduceNeg, Int.reduceToNat, reduceCtorEq, reduceIte, lenV_sl H.h.k, lenV_sl H.h.p, lenV_sl H.h.b, elem_kd H.h.k, elem_pr H.h.p, elem_in H.h.b, view_sl H.h.k, view_sl H.h.p, view_sl H.h.b, scalar_sl H.h.k, scalar_sl H.h.p, scalar_sl H.h.b, cells_sl H.h.k, cells_sl H.h.p, cells_sl H.h.b, pure_sl H.h.k, pure_sl H.h.p, pure_sl H.h.b, Int.toNat_natCast, lenV_sl H.pk, view_sl H.pk, scalar_sl H.pk, cells_sl H.pk, pure_sl H.pk, H.bi.len, H.bi.sc, H.bi.ce, H.bi.pu, H.bi.vw, lenV_sl U, view_sl U, scalar_sl U, cells_sl U, pure_sl U, a39, a59, fin2, view_tup, List.mapM_cons, List.mapM_nil, view_int]
    rw [hu]; rfl
theorem t42 (H : FsOk f k p b pv bv w) {s : List Int} {v : AV} (V : IsSl 1 intL s v) (hl : s.length ≤ 41) (st : Bool) : Iso E 42 [frV f k p b pv bv, v] st = some (.tup [Bo (f.valid && isS f.r f.bids s), I (fE f.valid)]) := by
  have a39 := fun st => t39 H st
  simp only [frV] at a39
  refine Iso_of (es _ _ _ _) e42 ?_
  simp only [f42]
  cases hv : f.valid
  · rw [hv] at a39
    simp only [fE_f] at a39
    simp (disch := first | assumption | omega | (simp only [az]; done)) only [ru, eq_self, if_true, if_false, BEq.rfl, binI, AO.row?, splice, fillL, mmAll, loadV, storeV, zeros, Am.rowAt, Am.part, addOff, Nat.reduceAdd, Nat.reduceMul, Nat.reduceLeDiff, Nat.reduceSub, Nat.reduceLT, Int.reduceEq, Int.reduceLT, Int.reduceLE, Int.reduceGT, Int.reduceGE, Int.reduceAdd, Int.reduceSub, Int.reduceMul, Int.reduceNeg, Int.reduceToNat, reduceCtorEq, reduceIte, lenV_sl H.h.k, lenV_sl H.h.p, lenV_sl H.h.b, elem_kd H.h.k, elem_pr H.h.p, elem_in H.h.b, view_sl H.h.k, view_sl H.h.p, view_sl H.h.b, scalar_sl H.h.k, scalar_sl H.h.p, scalar_sl H.h.b, cells_sl H.h.k, cells_sl H.h.p, cells_sl H.h.b, pure_sl H.h.k, pure_sl H.h.p, pure_sl H.h.b, Int.toNat_natCast, lenV_sl H.pk, view_sl H.pk, scalar_sl H.pk, cells_sl H.pk, pure_sl H.pk, H.bi.len, H.bi.sc, H.bi.ce, H.bi.pu, H.bi.vw, lenV_sl V, view_sl V, scalar_sl V, cells_sl V, pure_sl V, a39, fin2]
    try rfl
  · rw [hv] at a39
    simp only [fE_t] at a39
    have G := fvalid_iff hv
    have a14 := fun st => t14 H G V hl st
    simp only [frV] at a14
    simp (disch := first | assumption | omega | (simp only [az]; done)) only [ru, eq_self, if_true, if_false, BEq.rfl, binI, AO.row?, splice, fillL, mmAll, loadV, storeV, zeros, Am.rowAt, Am.part, addOff, Nat.reduceAdd, Nat.reduceMul, Nat.reduceLeDiff, Nat.reduceSub, Nat.reduceLT, Int.reduceEq, Int.reduceLT, Int.reduceLE, Int.reduceGT, Int.reduceGE, Int.reduceAdd, Int.reduceSub, Int.reduceMul, Int.reduceNeg, Int.reduceToNat, reduceCtorEq, reduceIte, lenV_sl H.h.k, lenV_sl H.h.p, lenV_sl H.h.b, elem_kd H.h.k, elem_pr H.h.p, elem_in H.h.b, view_sl H.h.k, view_sl H.h.p, view_sl H.h.b, scalar_sl H.h.k, scalar_sl H.h.p, scalar_sl H.h.b, cells_sl H.h.k, cells_sl H.h.p, cells_sl H.h.b, pure_sl H.h.k, pure_sl H.h.p, pure_sl H.h.b, Int.toNat_natCast, lenV_sl H.pk, view_sl H.pk, scalar_sl H.pk, cells_sl H.pk, pure_sl H.pk, H.bi.len, H.bi.sc, H.bi.ce, H.bi.pu, H.bi.vw, lenV_sl V, view_sl V, scalar_sl V, cells_sl V, pure_sl V, a39, a14, fin2, Bool.true_and]
    try rfl
set_option maxHeartbeats 4000000 in
theorem l9 (H0 : FsIn f k p b pv bv w) {s : List Int} {v : AV} (V : IsSl 1 intL s v) : Iso E 9 [frV f k p b pv bv, v] false = some (Bo true) := by
  have a37 := fun st => t37 H0 st
  simp only [frV] at a37
  refine Iso_of (es _ _ _ _) e9 ?_
  simp only [f9]
  cases hh : f.huge
  case true =>
    rw [hh] at a37
    simp (disch := first | assumption | omega | (simp only [az]; done)) only [ru, eq_self, if_true, if_false, BEq.rfl, binI, AO.row?, splice, fillL, mmAll, loadV, storeV, zeros, Am.rowAt, Am.part, addOff, Nat.reduceAdd, Nat.reduceMul, Nat.reduceLeDiff, Nat.reduceSub, Nat.reduceLT, Int.reduceEq, Int.reduceLT, Int.reduceLE, Int.reduceGT, Int.reduceGE, Int.reduceAdd, Int.reduceSub, Int.reduceMul, Int.reduceNeg, Int.reduceToNat, reduceCtorEq, reduceIte, lenV_sl H0.h.k, lenV_sl H0.h.p, lenV_sl H0.h.b, elem_kd H0.h.k, elem_pr H0.h.p, elem_in H0.h.b, view_sl H0.h.k, view_sl H0.h.p, view_sl H0.h.b, scalar_sl H0.h.k, scalar_sl H0.h.p, scalar_sl H0.h.b, cells_sl H0.h.k, cells_sl H0.h.p, cells_sl H0.h.b, pure_sl H0.h.k, pure_sl H0.h.p, pure_sl H0.h.b, Int.toNat_natCast, lenV_sl H0.pk, view_sl H0.pk, scalar_sl H0.pk, cells_sl H0.pk, pure_sl H0.pk, H0.bi.len, H0.bi.sc, H0.bi.ce, H0.bi.pu, H0.bi.vw, lenV_sl V, view_sl V, scalar_sl V, cells_sl V, pure_sl V, a37, t15, gUn]
  rw [hh] at a37
  by_cases hl : (s.length : Int) > 40
  · simp (disch := first | assumption | omega | (simp only [az]; done)) only [ru, eq_self, if_true, if_false, BEq.rfl, binI, AO.row?, splice, fillL, mmAll, loadV, storeV, zeros, Am.rowAt, Am.part, addOff, Nat.reduceAdd, Nat.reduceMul, Nat.reduceLeDiff, Nat.reduceSub, Nat.reduceLT, Int.reduceEq, Int.reduceLT, Int.reduceLE, Int.reduceGT, Int.reduceGE, Int.reduceAdd, Int.reduceSub, Int.reduceMul, Int.reduceNeg, Int.reduceToNat, reduceCtorEq, reduceIte, lenV_sl H0.h.k, lenV_sl H0.h.p, lenV_sl H0.h.b, elem_kd H0.h.k, elem_pr H0.h.p, elem_in H0.h.b, view_sl H0.h.k, view_sl H0.h.p, view_sl H0.h.b, scalar_sl H0.h.k, scalar_sl H0.h.p, scalar_sl H0.h.b, cells_sl H0.h.k, cells_sl H0.h.p, cells_sl H0.h.b, pure_sl H0.h.k, pure_sl H0.h.p, pure_sl H0.h.b, Int.toNat_natCast, lenV_sl H0.pk, view_sl H0.pk, scalar_sl H0.pk, cells_sl H0.pk, pure_sl H0.pk, H0.bi.len, H0.bi.sc, H0.bi.ce, H0.bi.pu, H0.bi.vw, lenV_sl V, view_sl V, scalar_sl V, cells_sl V, pure_sl V, a37, hl, t15, gUn, decide_true]
    done
  have H := hugeF_ok H0 hh
  have nb := H.nb
  obtain ⟨wc, Hc⟩ := cpF_ok H
  have a33 := t33 H
  have a38 := fun st => t38 Hc st
  have a39 := fun st => t39 H st
  have a40 := fun st => t40 Hc st
  have a41 := t41 H
  have V2 : IsSl 1 intL s (slV 1 intL s) := slV_is
  have a18 := fun st => t18 Hc V2 (by omega) st
  have a42 := fun st => t42 H V (by omega) st
  have a43 := fun st => t43 Hc H st
  have a35b := fun st => s28 V2 V (by omega) st
  obtain ⟨u1, u2, U, U2, e1, e2⟩ : ∃ u1 u2, IsSl 1 intL (if f.valid then rdL f else []) u1 ∧ IsSl 1 intL (if f.valid then rdL f else []) u2 ∧ u1 = (if f.valid then resL (idx (fun i => f.r i) 4) else .nils) ∧ u2 = (if f.valid then resL (rdL f) else .nils) := by
    refine ⟨_, _, ?_, ?_, rfl, rfl⟩
    · split
      · rename_i hv; rw [rdL4 (fvalid_iff hv).h]; exact resL_is _
      · exact .inr ⟨rfl, rfl⟩
    · split
      · exact resL_is _
      · exact .inr ⟨rfl, rfl⟩
  have a35 := fun st => s28 U U2 (by have : ∀ n : Nat, (idx (fun i => f.r i) n).length ≤ n := fun n => by simp only [idx, List.length_map]; exact Nat.le_trans (List.length_filter_le _ _) (by simp)
                                     have h1 := this f.h.bs.length
                                     have h2 := H.ho.nb
                                     split
                                     · show (idx (fun i => f.r i) f.h.bs.length).length ≤ _; omega
                                     · simp) st
  rw [← e1] at a40
  rw [← e2] at a41
  simp only [cpF, frV] at a33 a38 a39 a40 a41 a18 a42 a43
  obtain ⟨e, he⟩ : ∃ e, e = fE f.valid := ⟨_, rfl⟩
  obtain ⟨g, hg⟩ : ∃ g, g = (f.valid && isS f.r f.bids s) := ⟨_, rfl⟩
  rw [← he] at a38 a39 a40 a41 a18 a42
  rw [← hg] at a18 a42
  obtain ⟨B, hB⟩ : ∃ B, B = resB f.bids := ⟨_, rfl⟩
  have B1 : B.scalar = true := by rw [hB]; exact Hc.bi.sc
  have B2 : B.cells = [B] := by rw [hB]; exact Hc.bi.ce
  have B3 : ∀ (g : List AO) (n : Nat), view false g n B = some B := fun g n => by rw [hB]; exact Hc.bi.vw g _
  have B4 : B.pureV = true := by rw [hB]; exact Hc.bi.pu
  rw [← hB] at a33 a38 a40 a18 a43
  have sk : IsSl 2 Kd.e f.h.ks (slV 2 Kd.e f.h.ks) := slV_is
  have sp : IsSl 2 Pr.e f.h.ps (slV 2 Pr.e f.h.ps) := slV_is
  have sb : IsSl 1 intL f.h.bs (slV 1 intL f.h.bs) := slV_is
  have sq : IsSl 1 intL f.pk (slV 1 intL f.pk) := slV_is
  obtain ⟨o, h', A, fr, lo, hc⟩ := cpyO (eb := 8) (lim := 0) (h := [.cells [k, I f.h.fl, p, b, pv, I f.d, I f.n, bv] false]) V intE intSc (by omega) (by omega) (Nat.zero_le _)
  simp only [List.length_cons, List.length_nil, Nat.zero_add, List.cons_append, List.nil_append] at A
  have d0 : h'[0]? = some (.cells [k, I f.h.fl, p, b, pv, I f.d, I f.n, bv] false) := fr.at rfl
  have ol : o < h'.length := (List.getElem?_eq_some_iff.1 hc).1
  have hpos : 0 < h'.length := by omega
  have b0 : ∀ x : AO, (h' ++ [x])[0]? = some (.cells [k, I f.h.fl, p, b, pv, I f.d, I f.n, bv] false) := fun x => by rw [at_ap hpos]; exact d0
  have bo : ∀ (x : AO) (n : Nat), view false (h' ++ [x]) (n + 1) (.ms 1 o 0 s.length) = some (slV 1 intL s) := fun x n => viewB (by rw [at_ap ol]; exact hc)
  have eqe : (e != e) = false := by simp
  simp (disch := first | assumption | omega | (simp only [az]; done)) only [ru, eq_self, if_true, if_false, BEq.rfl, binI, AO.row?, splice, fillL, mmAll, loadV, storeV, zeros, Am.rowAt, Am.part, addOff, Nat.reduceAdd, Nat.reduceMul, Nat.reduceLeDiff, Nat.reduceSub, Nat.reduceLT, Int.reduceEq, Int.reduceLT, Int.reduceLE, Int.reduceGT, Int.reduceGE, Int.reduceAdd, Int.reduceSub, Int.reduceMul, Int.reduceNeg, Int.reduceToNat, reduceCtorEq, reduceIte, lenV_sl H.h.k, lenV_sl H.h.p, lenV_sl H.h.b, elem_kd H.h.k, elem_pr H.h.p, elem_in H.h.b, view_sl H.h.k, view_sl H.h.p, view_sl H.h.b, scalar_sl H.h.k, scalar_sl H.h.p, scalar_sl H.h.b, cells_sl H.h.k, cells_sl H.h.p, cells_sl H.h.b, pure_sl H.h.k, pure_sl H.h.p, pure_sl H.h.b, Int.toNat_natCast, lenV_sl H.pk, view_sl H.pk, scalar_sl H.pk, cells_sl H.pk, pure_sl H.pk, H.bi.len, H.bi.sc, H.bi.ce, H.bi.pu, H.bi.vw, lenV_sl V, view_sl V, scalar_sl V, cells_sl V, pure_sl V, lenV_sl V2, view_sl V2, scalar_sl V2, cells_sl V2, pure_sl V2, lenV_sl U, view_sl U, scalar_sl U, cells_sl U, pure_sl U, lenV_sl U2, view_sl U2, scalar_sl U2, cells_sl U2, pure_sl U2, lenV_sl sk, view_sl sk, scalar_sl sk, cells_sl sk, pure_sl sk, lenV_sl sp, view_sl sp, scalar_sl sp, cells_sl sp, pure_sl sp, lenV_sl sb, view_sl sb, scalar_sl sb, cells_sl sb, pure_sl sb, lenV_sl sq, view_sl sq, scalar_sl sq, cells_sl sq, pure_sl sq, B1, B2, B3, B4, a37, hl, gUn, decide_false, a33, exOp_buildSlice, exOp_append, List.map_nil, A, b0, bo, atE, setE, lenE, GO_mcall1, hide, a38, a39, eqe, a40, a41, a18, a42, a35, a43, a35b, beq_self_eq_true, t15]
  done
end
end Go.Proofs.YtfagcnokdnanpaaGreat.S

