/-
Need and Help, as the specification has them.
-/
import Derived.Test.YtpflneddfhifkaaHy
import Derived.Test.YtpflneddfhifkaaHn
namespace Go.Proofs.Ytpflneddfhifkaa.S
open Go Go.Am Go.Proofs.Ytpflneddfhifkaa.T
set_option maxRecDepth 100000
set_option linter.unusedSimpArgs false
set_option linter.unusedVariables false

theorem s101 {n : Net} {g a w : AV} (H : NetOk n g a w) (hv : n.valid = true) {k : Nat} (hk : k < n.ancs.length) (st : Bool) : Iso E 101 [netV n g a w, I k] st = some (Bo (decide (0 ≤ spareI n (rough n) k))) := by
  have q := s91 H hv
  have at' := fun i hi => truths_at (n := n) (i := i) hv hi
  have lg := (netB hv).lg
  obtain ⟨f, hf⟩ : ∃ f : Tru → Int, f = fun t => spareI n t k := ⟨_, rfl⟩
  have lo : ∀ t ∈ truths n, f (rough n) ≤ f t := fun t ht => by rw [hf]; exact spare_calmer (truths_good hv ht).toFair (rough_calmer (truths_good hv ht)) hk
  have rm := rough_mem hv
  have hr : spareI n (rough n) k = f (rough n) := by rw [hf]
  have tl := truths_le hv
  rw [hr]
  obtain ⟨T, hT⟩ : ∃ T, T = truths n := ⟨_, rfl⟩
  rw [← hT] at q lo rm tl
  simp only [← hT] at at'
  have LT : IsSl 3 Tru.e T (slV 3 Tru.e T) := slV_is
  have c : ∀ i, i < T.length → ∀ st, Iso E 55 [netV n g a w, .agg [I (T.getD i default).wind, I (T.getD i default).cur, resL (T.getD i default).grips], I k] st = some (I (f (T.getD i default))) := fun i hi st => by
    rw [hf]
    exact s55 H ⟨resL_is _, by have := (at' i hi).b.2.2.1; omega⟩ (at' i hi).toFair hk st
  obtain ⟨b, hb⟩ : ∃ b, b = decide (0 ≤ f (rough n)) := ⟨_, rfl⟩
  rw [← hb]
  refine Iso_of (es _ _ _ _) e101 ?_
  simp only [f101, netV]
  simp only [netV] at q c
  simp (disch := first | assumption | omega | (simp only [az]; done)) only [ru, eq_self, if_true, if_false, BEq.rfl, binI, AO.row?, splice, fillL, mmAll, loadV, storeV, zeros, Am.rowAt, Am.part, addOff, Nat.reduceAdd, Nat.reduceMul, Nat.reduceLeDiff, Nat.reduceSub, Nat.reduceLT, Int.reduceEq, Int.reduceLT, Int.reduceLE, Int.reduceGT, Int.reduceGE, Int.reduceAdd, Int.reduceSub, Int.reduceMul, Int.reduceNeg, Int.reduceToNat, reduceCtorEq, reduceIte, lenV_sl H.g, lenV_sl H.a, lenV_sl H.w, elem_sl Spn.el H.g, elem_sl Anc.el H.a, elem_sl Wal.el H.w, view_sl H.g, view_sl H.a, view_sl H.w, scalar_sl H.g, scalar_sl H.a, scalar_sl H.w, cells_sl H.g, cells_sl H.a, cells_sl H.w, pure_sl H.g, pure_sl H.a, pure_sl H.w, Spn.e, Anc.e, Wal.e, Spn.eta, Anc.eta, Wal.eta, Int.toNat_natCast, q]
  refine G_loop_ind (fun m ts h mk => ∃ (i : Nat), i ≤ T.length ∧ m = T.length - i ∧ (∀ j, j < i → 0 ≤ f (T.getD j default)) ∧ ts.length = 23 ∧ ts.getD 1 .undef = I k ∧ ts.getD 2 .undef = .ptr 0 0 ∧ ts.getD 5 .undef = slV 3 Tru.e T ∧ ts.getD 6 .undef = I i ∧ h = [.cells [I n.wind.lo, I n.wind.hi, I n.cur.lo, I n.cur.hi, g, a, w] false] ∧ mk = []) ?_ _ _ _ _
    ⟨0, Nat.zero_le _, rfl, fun j hj => by omega, rfl, rfl, rfl, rfl, rfl, rfl, rfl⟩
  rintro m ts h mk ih ⟨i, hi, rfl, hall, hl, q1, q2, q5, q6, rfl, rfl⟩
  rw [lit_all hl]
  simp only [lit0, litS, Nat.reduceAdd, q1, q2, q5, q6]
  simp (disch := first | assumption | omega | (simp only [az]; done)) only [ru, eq_self, if_true, if_false, BEq.rfl, binI, AO.row?, splice, fillL, mmAll, loadV, storeV, zeros, Am.rowAt, Am.part, addOff, Nat.reduceAdd, Nat.reduceMul, Nat.reduceLeDiff, Nat.reduceSub, Nat.reduceLT, Int.reduceEq, Int.reduceLT, Int.reduceLE, Int.reduceGT, Int.reduceGE, Int.reduceAdd, Int.reduceSub, Int.reduceMul, Int.reduceNeg, Int.reduceToNat, reduceCtorEq, reduceIte, lenV_sl LT]
  by_cases hlt : (i : Int) < T.length
  case pos =>
    have hi' : i < T.length := by omega
    have ci := c i hi'
    have li := lo _ (getD_mem hi')
    by_cases hz : f (T.getD i default) < 0
    · have b0 : b = false := by rw [hb, decide_eq_false_iff_not]; omega
      simp (disch := first | assumption | omega | (simp only [az]; done)) only [ru, eq_self, if_true, if_false, BEq.rfl, binI, AO.row?, splice, fillL, mmAll, loadV, storeV, zeros, Am.rowAt, Am.part, addOff, Nat.reduceAdd, Nat.reduceMul, Nat.reduceLeDiff, Nat.reduceSub, Nat.reduceLT, Int.reduceEq, Int.reduceLT, Int.reduceLE, Int.reduceGT, Int.reduceGE, Int.reduceAdd, Int.reduceSub, Int.reduceMul, Int.reduceNeg, Int.reduceToNat, reduceCtorEq, reduceIte, hlt, lenV_sl H.g, lenV_sl H.a, lenV_sl H.w, elem_sl Spn.el H.g, elem_sl Anc.el H.a, elem_sl Wal.el H.w, view_sl H.g, view_sl H.a, view_sl H.w, scalar_sl H.g, scalar_sl H.a, scalar_sl H.w, cells_sl H.g, cells_sl H.a, cells_sl H.w, pure_sl H.g, pure_sl H.a, pure_sl H.w, Spn.e, Anc.e, Wal.e, Spn.eta, Anc.eta, Wal.eta, Int.toNat_natCast, elem_sl Tru.el LT, Int.toNat_natCast, Tru.e, resL_sc, resL_ce, resL_pu, resL_vi, ci, hz, b0]
    · simp (disch := first | assumption | omega | (simp only [az]; done)) only [ru, eq_self, if_true, if_false, BEq.rfl, binI, AO.row?, splice, fillL, mmAll, loadV, storeV, zeros, Am.rowAt, Am.part, addOff, Nat.reduceAdd, Nat.reduceMul, Nat.reduceLeDiff, Nat.reduceSub, Nat.reduceLT, Int.reduceEq, Int.reduceLT, Int.reduceLE, Int.reduceGT, Int.reduceGE, Int.reduceAdd, Int.reduceSub, Int.reduceMul, Int.reduceNeg, Int.reduceToNat, reduceCtorEq, reduceIte, hlt, lenV_sl H.g, lenV_sl H.a, lenV_sl H.w, elem_sl Spn.el H.g, elem_sl Anc.el H.a, elem_sl Wal.el H.w, view_sl H.g, view_sl H.a, view_sl H.w, scalar_sl H.g, scalar_sl H.a, scalar_sl H.w, cells_sl H.g, cells_sl H.a, cells_sl H.w, pure_sl H.g, pure_sl H.a, pure_sl H.w, Spn.e, Anc.e, Wal.e, Spn.eta, Anc.eta, Wal.eta, Int.toNat_natCast, elem_sl Tru.el LT, Int.toNat_natCast, Tru.e, resL_sc, resL_ce, resL_pu, resL_vi, ci, hz]
      refine ih (T.length - (i + 1)) _ _ _ (by omega) ⟨i + 1, by omega, rfl, fun j hj => ?_, rfl, rfl, rfl, rfl, rfl, rfl, rfl⟩
      by_cases e : j = i
      · subst e; omega
      · exact hall j (by omega)
  have b1 : b = true := by
    rw [hb, decide_eq_true_eq]
    obtain ⟨j, hj, e⟩ := List.mem_iff_getElem.1 rm
    have := hall j (by omega)
    rw [List.getD_eq_getElem?_getD, List.getElem?_eq_getElem hj, Option.getD_some, e] at this
    exact this
  simp (disch := first | assumption | omega | (simp only [az]; done)) only [ru, eq_self, if_true, if_false, BEq.rfl, binI, AO.row?, splice, fillL, mmAll, loadV, storeV, zeros, Am.rowAt, Am.part, addOff, Nat.reduceAdd, Nat.reduceMul, Nat.reduceLeDiff, Nat.reduceSub, Nat.reduceLT, Int.reduceEq, Int.reduceLT, Int.reduceLE, Int.reduceGT, Int.reduceGE, Int.reduceAdd, Int.reduceSub, Int.reduceMul, Int.reduceNeg, Int.reduceToNat, reduceCtorEq, reduceIte, hlt, b1]

theorem heavy_spare {n : Net} {k : Nat} {x : Int} {t : Tru} (hk : k < n.ancs.length) : spareI (heavy n k x) t k = spareI n t k + 2 * x * gripI n t k := by
  unfold spareI canI gripI
  rw [heavy_bears, heavy_at hk, if_pos rfl]
  simp only [Int.mul_add, Int.add_mul]
  omega

def needL (n : Net) : List Int := if n.valid && ndAll n then ndl n n.ancs.length else []
def needE (n : Net) : Int := if n.valid then (if ndAll n then 0 else 3) else 20
theorem s49a {n : Net} {g a w : AV} (H : NetOk n g a w) (st : Bool) : Iso E 49 [netV n g a w] st = some (.tup [resL (needL n), I (needE n)]) := by
  cases hv : n.valid
  · refine Iso_of (es _ _ _ _) e49 ?_
    simp only [f49, netV]
    simp (disch := first | assumption | omega | (simp only [az]; done)) only [ru, eq_self, if_true, if_false, BEq.rfl, binI, AO.row?, splice, fillL, mmAll, loadV, storeV, zeros, Am.rowAt, Am.part, addOff, Nat.reduceAdd, Nat.reduceMul, Nat.reduceLeDiff, Nat.reduceSub, Nat.reduceLT, Int.reduceEq, Int.reduceLT, Int.reduceLE, Int.reduceGT, Int.reduceGE, Int.reduceAdd, Int.reduceSub, Int.reduceMul, Int.reduceNeg, Int.reduceToNat, reduceCtorEq, reduceIte, lenV_sl H.g, lenV_sl H.a, lenV_sl H.w, elem_sl Spn.el H.g, elem_sl Anc.el H.a, elem_sl Wal.el H.w, view_sl H.g, view_sl H.a, view_sl H.w, scalar_sl H.g, scalar_sl H.a, scalar_sl H.w, cells_sl H.g, cells_sl H.a, cells_sl H.w, pure_sl H.g, pure_sl H.a, pure_sl H.w, Spn.e, Anc.e, Wal.e, Spn.eta, Anc.eta, Wal.eta, Int.toNat_natCast, s18 H, hv]
    simp only [needL, needE, hv, Bool.false_and, Bool.false_eq_true, if_false]
    rfl
  · rw [s49 H hv]
    simp only [needL, needE, hv, Bool.true_and, if_true]
    cases ndAll n
    · simp only [Bool.false_eq_true, if_false]; rfl
    · simp only [if_true]

set_option maxHeartbeats 1000000 in
theorem s50 {n : Net} {g a w : AV} (H : NetOk n g a w) (st : Bool) : Iso E 50 [netV n g a w] st = some (.tup [resL (needL n), I (needE n)]) := by
  have sa := H.sa
  refine Iso_of (es _ _ _ _) e50 ?_
  simp only [f50, netV]
  cases hv : n.valid
  · simp (disch := first | assumption | omega | (simp only [az]; done)) only [ru, eq_self, if_true, if_false, BEq.rfl, binI, AO.row?, splice, fillL, mmAll, loadV, storeV, zeros, Am.rowAt, Am.part, addOff, Nat.reduceAdd, Nat.reduceMul, Nat.reduceLeDiff, Nat.reduceSub, Nat.reduceLT, Int.reduceEq, Int.reduceLT, Int.reduceLE, Int.reduceGT, Int.reduceGE, Int.reduceAdd, Int.reduceSub, Int.reduceMul, Int.reduceNeg, Int.reduceToNat, reduceCtorEq, reduceIte, lenV_sl H.g, lenV_sl H.a, lenV_sl H.w, elem_sl Spn.el H.g, elem_sl Anc.el H.a, elem_sl Wal.el H.w, view_sl H.g, view_sl H.a, view_sl H.w, scalar_sl H.g, scalar_sl H.a, scalar_sl H.w, cells_sl H.g, cells_sl H.a, cells_sl H.w, pure_sl H.g, pure_sl H.a, pure_sl H.w, Spn.e, Anc.e, Wal.e, Spn.eta, Anc.eta, Wal.eta, Int.toNat_natCast, s19 H, hv]
    simp only [needL, needE, hv, Bool.false_and, Bool.false_eq_true, if_false]
    rfl
  have B := netB hv
  have la := B.la
  obtain ⟨A, hA⟩ : ∃ A, A = ndAll n := ⟨_, rfl⟩
  have hA' : A = (List.range n.ancs.length).all fun i => ndOk n (rough n) i := hA
  have eL : needL n = if A then ndl n n.ancs.length else [] := by simp only [needL, hv, Bool.true_and, hA]
  have eE : needE n = if A then 0 else 3 := by simp only [needE, hv, if_true, hA]
  rw [eL, eE]
  simp (disch := first | assumption | omega | (simp only [az]; done)) only [ru, eq_self, if_true, if_false, BEq.rfl, binI, AO.row?, splice, fillL, mmAll, loadV, storeV, zeros, Am.rowAt, Am.part, addOff, Nat.reduceAdd, Nat.reduceMul, Nat.reduceLeDiff, Nat.reduceSub, Nat.reduceLT, Int.reduceEq, Int.reduceLT, Int.reduceLE, Int.reduceGT, Int.reduceGE, Int.reduceAdd, Int.reduceSub, Int.reduceMul, Int.reduceNeg, Int.reduceToNat, reduceCtorEq, reduceIte, lenV_sl H.g, lenV_sl H.a, lenV_sl H.w, elem_sl Spn.el H.g, elem_sl Anc.el H.a, elem_sl Wal.el H.w, view_sl H.g, view_sl H.a, view_sl H.w, scalar_sl H.g, scalar_sl H.a, scalar_sl H.w, cells_sl H.g, cells_sl H.a, cells_sl H.w, pure_sl H.g, pure_sl H.a, pure_sl H.w, Spn.e, Anc.e, Wal.e, Spn.eta, Anc.eta, Wal.eta, Int.toNat_natCast, s19 H, hv]
  refine G_loop_ind (fun m ts h mk => ∃ (i : Nat) (J : List AO) (o : AV), i ≤ n.ancs.length ∧ m = n.ancs.length - i ∧ ((List.range i).all fun i => ndOk n (rough n) i) = true ∧ ts.length = 54 ∧ ts.getD 1 .undef = .ptr 0 0 ∧
    ts.getD 5 .undef = o ∧ ts.getD 6 .undef = I i ∧ OutSl 1 (.cells [I n.wind.lo, I n.wind.hi, I n.cur.lo, I n.cur.hi, g, a, w] false :: J) o (ndl n i) ∧ h = .cells [I n.wind.lo, I n.wind.hi, I n.cur.lo, I n.cur.hi, g, a, w] false :: J ∧ mk = []) ?_ _ _ _ _
      ⟨0, [], .nils, Nat.zero_le _, rfl, rfl, rfl, rfl, rfl, rfl, .inl ⟨rfl, rfl⟩, rfl, rfl⟩
  rintro m ts h mk ih ⟨i, J, o, hi, rfl, hall, hl, q1, q5, q6, ho, rfl, rfl⟩
  rw [lit_all hl]
  simp only [lit0, litS, Nat.reduceAdd, q1, q5, q6]
  simp (disch := first | assumption | omega | (simp only [az]; done)) only [ru, eq_self, if_true, if_false, BEq.rfl, binI, AO.row?, splice, fillL, mmAll, loadV, storeV, zeros, Am.rowAt, Am.part, addOff, Nat.reduceAdd, Nat.reduceMul, Nat.reduceLeDiff, Nat.reduceSub, Nat.reduceLT, Int.reduceEq, Int.reduceLT, Int.reduceLE, Int.reduceGT, Int.reduceGE, Int.reduceAdd, Int.reduceSub, Int.reduceMul, Int.reduceNeg, Int.reduceToNat, reduceCtorEq, reduceIte, lenV_sl H.g, lenV_sl H.a, lenV_sl H.w, elem_sl Spn.el H.g, elem_sl Anc.el H.a, elem_sl Wal.el H.w, view_sl H.g, view_sl H.a, view_sl H.w, scalar_sl H.g, scalar_sl H.a, scalar_sl H.w, cells_sl H.g, cells_sl H.a, cells_sl H.w, pure_sl H.g, pure_sl H.a, pure_sl H.w, Spn.e, Anc.e, Wal.e, Spn.eta, Anc.eta, Wal.eta, Int.toNat_natCast]
  by_cases hlt : (i : Int) < n.ancs.length
  case pos =>
    have hi' : i < n.ancs.length := by omega
    obtain ⟨w0, w1, b0, b1, c0, c1⟩ := good_anc (rough_good hv).toFair hi'
    obtain ⟨N, hN⟩ : ∃ N, N = roomI n i := ⟨_, rfl⟩
    have hroom : (N : Int) = 20 - (n.ancs.getD i default).w + 1 := by rw [hN]; unfold roomI; omega
    have hy' : ndGo (spareI n (rough n) i) (gripI n (rough n) i) (N - 0) 0 = ndT n (rough n) i := by rw [hN]; rfl
    have hok : ndOk n (rough n) i = decide (ndT n (rough n) i < N) := by rw [hN]; rfl
    have C := fun (j : Nat) (hj : (j : Int) ≤ 20 - (n.ancs.getD i default).w) => heavy_valid (x := (j : Int)) hv hi' (by omega) (by omega)
    have D := fun (j : Nat) (hj : (j : Int) ≤ 20 - (n.ancs.getD i default).w) st => s59 H hi' (x := (j : Int)) (by omega) (by omega) st
    have F : ∀ (j : Nat) (hj : (j : Int) ≤ 20 - (n.ancs.getD i default).w) st, Iso E 101 [netC (heavy n i (j : Int)), I i] st = some (Bo (decide (0 ≤ spareI n (rough n) i + 2 * (j : Int) * gripI n (rough n) i))) := fun j hj st => by
      have q := s101 (n := heavy n i (j : Int)) ⟨slV_is, slV_is, slV_is, H.sg, by rw [heavy_len]; exact H.sa, H.sw⟩ (C j hj) (by rw [heavy_len]; exact hi') st
      have e : rough (heavy n i (j : Int)) = rough n := rfl
      rw [e, heavy_spare hi'] at q
      exact q
    clear C
    obtain ⟨v, hvv⟩ : ∃ v, v = n.ancs.getD i default := ⟨_, rfl⟩
    obtain ⟨y, hy⟩ : ∃ y, y = ndT n (rough n) i := ⟨_, rfl⟩
    obtain ⟨s, hs⟩ : ∃ s, s = spareI n (rough n) i := ⟨_, rfl⟩
    obtain ⟨z, hz⟩ : ∃ z, z = gripI n (rough n) i := ⟨_, rfl⟩
    simp only [← hvv] at w0 w1 hroom D F
    rw [← hs, ← hz, ← hy] at hy'
    rw [← hy] at hok
    simp only [← hs, ← hz] at F
    simp (disch := first | assumption | omega | (simp only [az]; done)) only [ru, eq_self, if_true, if_false, BEq.rfl, binI, AO.row?, splice, fillL, mmAll, loadV, storeV, zeros, Am.rowAt, Am.part, addOff, Nat.reduceAdd, Nat.reduceMul, Nat.reduceLeDiff, Nat.reduceSub, Nat.reduceLT, Int.reduceEq, Int.reduceLT, Int.reduceLE, Int.reduceGT, Int.reduceGE, Int.reduceAdd, Int.reduceSub, Int.reduceMul, Int.reduceNeg, Int.reduceToNat, reduceCtorEq, reduceIte, lenV_sl H.g, lenV_sl H.a, lenV_sl H.w, elem_sl Spn.el H.g, elem_sl Anc.el H.a, elem_sl Wal.el H.w, view_sl H.g, view_sl H.a, view_sl H.w, scalar_sl H.g, scalar_sl H.a, scalar_sl H.w, cells_sl H.g, cells_sl H.a, cells_sl H.w, pure_sl H.g, pure_sl H.a, pure_sl H.w, Spn.e, Anc.e, Wal.e, Spn.eta, Anc.eta, Wal.eta, Int.toNat_natCast, hlt]
    clear hl q1 q5 q6
    refine G_loop_ind (fun m ts h mk => ∃ (j : Nat), j ≤ N ∧ m = N - j ∧ ndGo s z (N - j) j = y ∧ ts.length = 54 ∧ ts.getD 1 .undef = .ptr 0 0 ∧ ts.getD 5 .undef = o ∧ ts.getD 6 .undef = I i ∧ ts.getD 7 .undef = I j ∧ h = .cells [I n.wind.lo, I n.wind.hi, I n.cur.lo, I n.cur.hi, g, a, w] false :: J ∧ mk = []) ?_ _ _ _ _
      ⟨0, Nat.zero_le _, rfl, hy', rfl, rfl, rfl, rfl, rfl, rfl, rfl⟩
    rintro m ts h mk ihj ⟨j, hj, rfl, hg, hl, q1, q5, q6, q7, rfl, rfl⟩
    rw [lit_all hl]
    simp only [lit0, litS, Nat.reduceAdd, q1, q5, q6, q7]
    obtain ⟨v', J', ha, ho'⟩ := out_app (pre := [(.cells [I n.wind.lo, I n.wind.hi, I n.cur.lo, I n.cur.hi, g, a, w] false : AO)]) (J := J) (v := o) (l := ndl n i) (lim := 0) ho (Nat.zero_le _) (by rw [ndl_len]; omega) (y : Int)
    simp only [apC, apN, lenS, len0, Nat.zero_add] at ha ho'
    have ho2 : OutSl 1 (.cells [I n.wind.lo, I n.wind.hi, I n.cur.lo, I n.cur.hi, g, a, w] false :: J') v' (ndl n (i + 1)) := by rw [ndl_succ, ← hy]; exact ho'
    by_cases hlj : v.w + (j : Int) ≤ 20
    · have hjw : (j : Int) ≤ 20 - v.w := by omega
      have e : N - j = (N - (j + 1)) + 1 := by omega
      rw [e, ndGo] at hg
      have d1 := D j hjw
      have f1 := F j hjw
      obtain ⟨n', hn'⟩ : ∃ n', n' = heavy n i (j : Int) := ⟨_, rfl⟩
      simp only [← hn', netC, netV] at d1 f1
      have ngt : ¬ v.w + (j : Int) > 20 := by omega
      by_cases hq : s + 2 * (j : Int) * z ≥ 0
      · rw [if_pos hq] at hg
        subst hg
        have oki : ndOk n (rough n) i = true := by rw [hok, decide_eq_true_eq]; omega
        have hq' : 0 ≤ s + 2 * (j : Int) * z := hq
        simp (disch := first | assumption | omega | (simp only [az]; done)) only [ru, eq_self, if_true, if_false, BEq.rfl, binI, AO.row?, splice, fillL, mmAll, loadV, storeV, zeros, Am.rowAt, Am.part, addOff, Nat.reduceAdd, Nat.reduceMul, Nat.reduceLeDiff, Nat.reduceSub, Nat.reduceLT, Int.reduceEq, Int.reduceLT, Int.reduceLE, Int.reduceGT, Int.reduceGE, Int.reduceAdd, Int.reduceSub, Int.reduceMul, Int.reduceNeg, Int.reduceToNat, reduceCtorEq, reduceIte, lenV_sl H.g, lenV_sl H.a, lenV_sl H.w, elem_sl Spn.el H.g, elem_sl Anc.el H.a, elem_sl Wal.el H.w, view_sl H.g, view_sl H.a, view_sl H.w, scalar_sl H.g, scalar_sl H.a, scalar_sl H.w, cells_sl H.g, cells_sl H.a, cells_sl H.w, pure_sl H.g, pure_sl H.a, pure_sl H.w, Spn.e, Anc.e, Wal.e, Spn.eta, Anc.eta, Wal.eta, Int.toNat_natCast, hlt, ← hvv, hlj, d1, f1, hq', slV_sc, slV_ce, slV_vi, slV_pu, ngt, ha]
        exact ih (n.ancs.length - (i + 1)) _ _ _ (by omega) ⟨i + 1, J', v', by omega, rfl, range_all_succ hall oki, rfl, rfl, rfl, rfl, ho2, rfl, rfl⟩
      · rw [if_neg hq] at hg
        have hq' : ¬ 0 ≤ s + 2 * (j : Int) * z := hq
        simp (disch := first | assumption | omega | (simp only [az]; done)) only [ru, eq_self, if_true, if_false, BEq.rfl, binI, AO.row?, splice, fillL, mmAll, loadV, storeV, zeros, Am.rowAt, Am.part, addOff, Nat.reduceAdd, Nat.reduceMul, Nat.reduceLeDiff, Nat.reduceSub, Nat.reduceLT, Int.reduceEq, Int.reduceLT, Int.reduceLE, Int.reduceGT, Int.reduceGE, Int.reduceAdd, Int.reduceSub, Int.reduceMul, Int.reduceNeg, Int.reduceToNat, reduceCtorEq, reduceIte, lenV_sl H.g, lenV_sl H.a, lenV_sl H.w, elem_sl Spn.el H.g, elem_sl Anc.el H.a, elem_sl Wal.el H.w, view_sl H.g, view_sl H.a, view_sl H.w, scalar_sl H.g, scalar_sl H.a, scalar_sl H.w, cells_sl H.g, cells_sl H.a, cells_sl H.w, pure_sl H.g, pure_sl H.a, pure_sl H.w, Spn.e, Anc.e, Wal.e, Spn.eta, Anc.eta, Wal.eta, Int.toNat_natCast, hlt, ← hvv, hlj, d1, f1, hq', slV_sc, slV_ce, slV_vi, slV_pu]
        exact ihj (N - (j + 1)) _ _ _ (by omega) ⟨j + 1, by omega, rfl, hg, rfl, rfl, rfl, rfl, rfl, rfl, rfl⟩
    · obtain rfl : j = N := by omega
      have hg' : y = j := by rw [← hg, Nat.sub_self]; rfl
      have oki : ndOk n (rough n) i = false := by rw [hok, decide_eq_false_iff_not]; omega
      have A0 : A = false := by rw [hA']; exact range_not hi' oki
      have hgt : v.w + (j : Int) > 20 := by omega
      simp (disch := first | assumption | omega | (simp only [az]; done)) only [ru, eq_self, if_true, if_false, BEq.rfl, binI, AO.row?, splice, fillL, mmAll, loadV, storeV, zeros, Am.rowAt, Am.part, addOff, Nat.reduceAdd, Nat.reduceMul, Nat.reduceLeDiff, Nat.reduceSub, Nat.reduceLT, Int.reduceEq, Int.reduceLT, Int.reduceLE, Int.reduceGT, Int.reduceGE, Int.reduceAdd, Int.reduceSub, Int.reduceMul, Int.reduceNeg, Int.reduceToNat, reduceCtorEq, reduceIte, lenV_sl H.g, lenV_sl H.a, lenV_sl H.w, elem_sl Spn.el H.g, elem_sl Anc.el H.a, elem_sl Wal.el H.w, view_sl H.g, view_sl H.a, view_sl H.w, scalar_sl H.g, scalar_sl H.a, scalar_sl H.w, cells_sl H.g, cells_sl H.a, cells_sl H.w, pure_sl H.g, pure_sl H.a, pure_sl H.w, Spn.e, Anc.e, Wal.e, Spn.eta, Anc.eta, Wal.eta, Int.toNat_natCast, hlt, ← hvv, hlj, hgt, gUn, A0]
      rfl
  obtain rfl : i = n.ancs.length := by omega
  have A1 : A = true := by rw [hA']; exact hall
  simp (disch := first | assumption | omega | (simp only [az]; done)) only [ru, eq_self, if_true, if_false, BEq.rfl, binI, AO.row?, splice, fillL, mmAll, loadV, storeV, zeros, Am.rowAt, Am.part, addOff, Nat.reduceAdd, Nat.reduceMul, Nat.reduceLeDiff, Nat.reduceSub, Nat.reduceLT, Int.reduceEq, Int.reduceLT, Int.reduceLE, Int.reduceGT, Int.reduceGE, Int.reduceAdd, Int.reduceSub, Int.reduceMul, Int.reduceNeg, Int.reduceToNat, reduceCtorEq, reduceIte, hlt, A1]
  rw [out_viewk ho]
  rfl
end Go.Proofs.Ytpflneddfhifkaa.S
