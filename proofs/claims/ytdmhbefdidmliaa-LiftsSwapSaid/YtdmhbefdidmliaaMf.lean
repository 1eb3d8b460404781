/-
LiftsSwap: which two boats should change places.
-/
import Derived.Test.YtdmhbefdidmliaaS3
namespace Go.Proofs.Ytdmhbefdidmliaa.S
open Go Go.Am Go.Proofs.Ytdmhbefdidmliaa.T
set_option maxRecDepth 100000
set_option linter.unusedSimpArgs false
set_option linter.unusedVariables false

section
variable {s : Sea} {p b : AV} {l : List Int} {v : AV}
theorem cr_len {s : Sea} {l : List Int} (h : isCr s l) : ¬ s.bo.length < s.pl.length := by
  have h1 := h.1
  have := nodup_le (l := l) (m := ofN (List.range s.bo.length)) h.2.2 (fun x hx => by
    have := h.2.1 x hx
    simp only [ofN, List.mem_map, List.mem_range]
    exact ⟨x.toNat, by omega, by omega⟩)
  simp only [ofN, List.length_map, List.length_range] at this
  omega

set_option maxHeartbeats 4000000 in
theorem s8 (H0 : SeaIn s p b) (V : IsSl 1 intL l v) (x y : Int) (st : Bool) : Iso E 8 [seaV s p b, v, .agg [I x, I y]] st = some (Bo true) := by
  have g0 := fun st => s16 H0 st
  refine Iso_of (es _ _ _ _) e8 ?_
  simp only [f8, seaV] at g0 ⊢
  cases hv : s.valid
  case false => simp (disch := first | assumption | omega | (simp only [az]; done)) only [ru, eq_self, if_true, if_false, BEq.rfl, binI, AO.row?, splice, fillL, mmAll, loadV, storeV, zeros, Am.rowAt, Am.part, addOff, Nat.reduceAdd, Nat.reduceMul, Nat.reduceLeDiff, Nat.reduceSub, Nat.reduceLT, Int.reduceEq, Int.reduceLT, Int.reduceLE, Int.reduceGT, Int.reduceGE, Int.reduceAdd, Int.reduceSub, Int.reduceMul, Int.reduceNeg, Int.reduceToNat, reduceCtorEq, reduceIte, lenV_sl H0.p, lenV_sl H0.b, elem_sp H0.p, elem_bt H0.b, view_sl H0.p, view_sl H0.b, scalar_sl H0.p, scalar_sl H0.b, cells_sl H0.p, cells_sl H0.b, pure_sl H0.p, pure_sl H0.b, Int.toNat_natCast, lenV_sl V, elem_in V, view_sl V, scalar_sl V, cells_sl V, pure_sl V, Int.toNat_natCast, g0, hv, gUn, s19]
  by_cases hl : (l.length : Int) > 40
  · simp (disch := first | assumption | omega | (simp only [az]; done)) only [ru, eq_self, if_true, if_false, BEq.rfl, binI, AO.row?, splice, fillL, mmAll, loadV, storeV, zeros, Am.rowAt, Am.part, addOff, Nat.reduceAdd, Nat.reduceMul, Nat.reduceLeDiff, Nat.reduceSub, Nat.reduceLT, Int.reduceEq, Int.reduceLT, Int.reduceLE, Int.reduceGT, Int.reduceGE, Int.reduceAdd, Int.reduceSub, Int.reduceMul, Int.reduceNeg, Int.reduceToNat, reduceCtorEq, reduceIte, lenV_sl H0.p, lenV_sl H0.b, elem_sp H0.p, elem_bt H0.b, view_sl H0.p, view_sl H0.b, scalar_sl H0.p, scalar_sl H0.b, cells_sl H0.p, cells_sl H0.b, pure_sl H0.p, pure_sl H0.b, Int.toNat_natCast, lenV_sl V, elem_in V, view_sl V, scalar_sl V, cells_sl V, pure_sl V, Int.toNat_natCast, g0, hv, hl, decide_true, gUn, s19]
  have K := (valid_good hv).1
  have H : SeaOk s p b := ⟨H0, by have := K.sp.le; omega, by have := K.nb; omega⟩
  have a1 := fun st => s26 H V (by omega) st
  simp only [seaV] at a1
  cases hc : crB s l
  · simp (disch := first | assumption | omega | (simp only [az]; done)) only [ru, eq_self, if_true, if_false, BEq.rfl, binI, AO.row?, splice, fillL, mmAll, loadV, storeV, zeros, Am.rowAt, Am.part, addOff, Nat.reduceAdd, Nat.reduceMul, Nat.reduceLeDiff, Nat.reduceSub, Nat.reduceLT, Int.reduceEq, Int.reduceLT, Int.reduceLE, Int.reduceGT, Int.reduceGE, Int.reduceAdd, Int.reduceSub, Int.reduceMul, Int.reduceNeg, Int.reduceToNat, reduceCtorEq, reduceIte, lenV_sl H0.p, lenV_sl H0.b, elem_sp H0.p, elem_bt H0.b, view_sl H0.p, view_sl H0.b, scalar_sl H0.p, scalar_sl H0.b, cells_sl H0.p, cells_sl H0.b, pure_sl H0.p, pure_sl H0.b, Int.toNat_natCast, lenV_sl V, elem_in V, view_sl V, scalar_sl V, cells_sl V, pure_sl V, Int.toNat_natCast, g0, hv, hl, a1, hc, decide_false, s19, gUn]
  obtain ⟨c1, c2⟩ := cr_at hc
  have cr := crB_iff.1 hc
  obtain ⟨cw, x0, x1, A, RD⟩ := cpyG (eb := 8) (lim := 0) (J := [.tomb]) (h := [.cells [I s.w.lo, I s.w.hi, p, b] false, .cells [I x, I y] false]) V intE intSc (by omega) (by omega) (Nat.zero_le _)
  have rv := fun st => (RD [.tomb]).view intE intIv (st := st) (k := 7)
  simp only [apC, apN, lenS, len0, Nat.zero_add, Nat.reduceAdd] at A rv
  have W := slV_is (esz := 1) (enc := intL) (l := l)
  have a2 := fun st => s28 H hv V (by omega) st
  have a3 := fun st => s33 H hv st
  have a4 := fun st => s42 H W (by omega) st
  have l1 : 0 ≤ lft s l := lftU_ge K (l := l) (k := l.length) (by omega)
  have n1 : ¬ lft s l < 0 := by omega
  have n2 : ¬ most s < lft s l := by have : lft s l ≤ most s := (mst_ge (f := lft s)).2 l (mem_crws.2 cr); omega
  have mo : mosv s = most s := if_neg (cr_len cr)
  have b1 := fun (i : Int) st => s25 H i st
  -- any exchange
  have ex : ∀ (x y : Nat), x < l.length → y < l.length → ∃ ev, IsSl 1 intL (exch l x y) ev ∧ (∀ st, Iso E 43 [v, .agg [I x, I y]] st = some ev) ∧ ∀ st, Iso E 28 [seaV s p b, ev] st = some (I (lft s (exch l x y))) := by
    intro x y hx hy
    refine ⟨_, slV_is, fun st => s43 V (by omega) hx hy st, fun st => ?_⟩
    have c3 := exch_ok cr hx hy
    have := s28 H hv (slV_is (esz := 1) (enc := intL) (l := exch l x y)) (by have := c3.1; have := H.sp; omega) st
    rw [canV, if_pos (crB_iff.2 c3)] at this
    exact this
  have ge0 : ∀ (x y : Nat), x < l.length → y < l.length → lft s (exch l x y) ≥ 0 := fun x y hx hy => lftU_ge K (by have := (exch_ok cr hx hy).1; omega)
  simp only [seaV, swpR, hv, hc, if_true, canV, mo] at a2 a3 a4 b1 ex
  obtain ⟨n, hn⟩ : ∃ n, n = lft s l := ⟨_, rfl⟩
  obtain ⟨m, hm⟩ : ∃ m, m = most s := ⟨_, rfl⟩
  have S0 := @swpA_none s l l.length 0
  have S1 := @swpA_some s l l.length 0
  simp only [← hn, ← hm] at a2 a3 n1 n2 S0 S1
  have tr : ∀ (z : Int), inR z 0 (s.pl.length - 1) = true → ∃ k : Nat, z = k ∧ k < l.length := fun z hz => by
    have := inR_iff.1 hz
    exact ⟨z.toNat, by omega, by omega⟩
  cases hs : swp s l with
  | none =>
    have S := S0.1 hs
    simp only [hs] at a4
    cases r1 : inR x 0 (s.pl.length - 1)
    · simp (disch := first | assumption | omega | (simp only [az]; done)) only [ru, eq_self, if_true, if_false, BEq.rfl, binI, AO.row?, splice, fillL, mmAll, loadV, storeV, zeros, Am.rowAt, Am.part, addOff, Nat.reduceAdd, Nat.reduceMul, Nat.reduceLeDiff, Nat.reduceSub, Nat.reduceLT, Int.reduceEq, Int.reduceLT, Int.reduceLE, Int.reduceGT, Int.reduceGE, Int.reduceAdd, Int.reduceSub, Int.reduceMul, Int.reduceNeg, Int.reduceToNat, reduceCtorEq, reduceIte, lenV_sl H.p, lenV_sl H.b, elem_sp H.p, elem_bt H.b, view_sl H.p, view_sl H.b, scalar_sl H.p, scalar_sl H.b, cells_sl H.p, cells_sl H.b, pure_sl H.p, pure_sl H.b, Int.toNat_natCast, lenV_sl V, elem_in V, view_sl V, scalar_sl V, cells_sl V, pure_sl V, Int.toNat_natCast, g0, hv, hl, a1, hc, GO_mapp, unhN, unhC, A, rv, a2, a3, a4, n1, n2, s35, b1, r1, s19, gUn, decide_true, decide_false, Bool.or_true, Bool.true_or, Bool.or_false, Bool.not_true, Bool.not_false]
    cases r2 : inR y 0 (s.pl.length - 1)
    · simp (disch := first | assumption | omega | (simp only [az]; done)) only [ru, eq_self, if_true, if_false, BEq.rfl, binI, AO.row?, splice, fillL, mmAll, loadV, storeV, zeros, Am.rowAt, Am.part, addOff, Nat.reduceAdd, Nat.reduceMul, Nat.reduceLeDiff, Nat.reduceSub, Nat.reduceLT, Int.reduceEq, Int.reduceLT, Int.reduceLE, Int.reduceGT, Int.reduceGE, Int.reduceAdd, Int.reduceSub, Int.reduceMul, Int.reduceNeg, Int.reduceToNat, reduceCtorEq, reduceIte, lenV_sl H.p, lenV_sl H.b, elem_sp H.p, elem_bt H.b, view_sl H.p, view_sl H.b, scalar_sl H.p, scalar_sl H.b, cells_sl H.p, cells_sl H.b, pure_sl H.p, pure_sl H.b, Int.toNat_natCast, lenV_sl V, elem_in V, view_sl V, scalar_sl V, cells_sl V, pure_sl V, Int.toNat_natCast, g0, hv, hl, a1, hc, GO_mapp, unhN, unhC, A, rv, a2, a3, a4, n1, n2, s35, b1, r1, r2, s19, gUn, decide_true, decide_false, Bool.or_true, Bool.true_or, Bool.or_false, Bool.not_true, Bool.not_false]
    by_cases r3 : x ≥ y
    · simp (disch := first | assumption | omega | (simp only [az]; done)) only [ru, eq_self, if_true, if_false, BEq.rfl, binI, AO.row?, splice, fillL, mmAll, loadV, storeV, zeros, Am.rowAt, Am.part, addOff, Nat.reduceAdd, Nat.reduceMul, Nat.reduceLeDiff, Nat.reduceSub, Nat.reduceLT, Int.reduceEq, Int.reduceLT, Int.reduceLE, Int.reduceGT, Int.reduceGE, Int.reduceAdd, Int.reduceSub, Int.reduceMul, Int.reduceNeg, Int.reduceToNat, reduceCtorEq, reduceIte, lenV_sl H.p, lenV_sl H.b, elem_sp H.p, elem_bt H.b, view_sl H.p, view_sl H.b, scalar_sl H.p, scalar_sl H.b, cells_sl H.p, cells_sl H.b, pure_sl H.p, pure_sl H.b, Int.toNat_natCast, lenV_sl V, elem_in V, view_sl V, scalar_sl V, cells_sl V, pure_sl V, Int.toNat_natCast, g0, hv, hl, a1, hc, GO_mapp, unhN, unhC, A, rv, a2, a3, a4, n1, n2, s35, b1, r1, r2, r3, s19, gUn, decide_true, decide_false, Bool.or_true, Bool.true_or, Bool.or_false, Bool.not_true, Bool.not_false]
    obtain ⟨i, rfl, hi⟩ := tr x r1
    obtain ⟨j, rfl, hj⟩ := tr y r2
    obtain ⟨ev, EV, e1, e2⟩ := ex i j hi hj
    have g := ge0 i j hi hj
    have le : lft s (exch l i j) ≤ n := by have := S i (Nat.zero_le _) (by omega) j (by omega) hj; omega
    obtain ⟨w, hw⟩ : ∃ w, w = lft s (exch l i j) := ⟨_, rfl⟩
    simp only [← hw] at e2 g le
    simp (disch := first | assumption | omega | (simp only [az]; done)) only [ru, eq_self, if_true, if_false, BEq.rfl, binI, AO.row?, splice, fillL, mmAll, loadV, storeV, zeros, Am.rowAt, Am.part, addOff, Nat.reduceAdd, Nat.reduceMul, Nat.reduceLeDiff, Nat.reduceSub, Nat.reduceLT, Int.reduceEq, Int.reduceLT, Int.reduceLE, Int.reduceGT, Int.reduceGE, Int.reduceAdd, Int.reduceSub, Int.reduceMul, Int.reduceNeg, Int.reduceToNat, reduceCtorEq, reduceIte, lenV_sl H.p, lenV_sl H.b, elem_sp H.p, elem_bt H.b, view_sl H.p, view_sl H.b, scalar_sl H.p, scalar_sl H.b, cells_sl H.p, cells_sl H.b, pure_sl H.p, pure_sl H.b, Int.toNat_natCast, lenV_sl V, elem_in V, view_sl V, scalar_sl V, cells_sl V, pure_sl V, Int.toNat_natCast, g0, hv, hl, a1, hc, GO_mapp, unhN, unhC, A, rv, a2, a3, a4, n1, n2, s35, b1, r1, r2, r3, e1, e2, lenV_sl EV, elem_in EV, view_sl EV, scalar_sl EV, cells_sl EV, pure_sl EV, Int.toNat_natCast, g, le, s19, gUn, decide_true, decide_false, Bool.or_true, Bool.true_or, Bool.or_false, Bool.not_true, Bool.not_false]
  | some q =>
    obtain ⟨i0, j0⟩ := q
    obtain ⟨t1, t2, t3, t4, t5, t6⟩ := S1 hs
    simp only [Nat.zero_add] at t2 t3 t4 t5
    obtain ⟨ev, EV, e1, e2⟩ := ex i0 j0 (by omega) (by omega)
    have u1 : inR (i0 : Int) 0 (s.pl.length - 1) = true := inR_iff.2 (by omega)
    have u2 : inR (j0 : Int) 0 (s.pl.length - 1) = true := inR_iff.2 (by omega)
    have u3 : ¬ (i0 : Int) ≥ j0 := by omega
    have u4 : ¬ lft s (exch l i0 j0) ≤ n := by omega
    obtain ⟨w0, hw0⟩ : ∃ w, w = lft s (exch l i0 j0) := ⟨_, rfl⟩
    simp only [← hw0] at e2 u4
    simp only [hs] at a4
    cases r1 : inR x 0 (s.pl.length - 1)
    · simp (disch := first | assumption | omega | (simp only [az]; done)) only [ru, eq_self, if_true, if_false, BEq.rfl, binI, AO.row?, splice, fillL, mmAll, loadV, storeV, zeros, Am.rowAt, Am.part, addOff, Nat.reduceAdd, Nat.reduceMul, Nat.reduceLeDiff, Nat.reduceSub, Nat.reduceLT, Int.reduceEq, Int.reduceLT, Int.reduceLE, Int.reduceGT, Int.reduceGE, Int.reduceAdd, Int.reduceSub, Int.reduceMul, Int.reduceNeg, Int.reduceToNat, reduceCtorEq, reduceIte, lenV_sl H.p, lenV_sl H.b, elem_sp H.p, elem_bt H.b, view_sl H.p, view_sl H.b, scalar_sl H.p, scalar_sl H.b, cells_sl H.p, cells_sl H.b, pure_sl H.p, pure_sl H.b, Int.toNat_natCast, lenV_sl V, elem_in V, view_sl V, scalar_sl V, cells_sl V, pure_sl V, Int.toNat_natCast, g0, hv, hl, a1, hc, GO_mapp, unhN, unhC, A, rv, a2, a3, a4, n1, n2, s35, b1, u1, u2, u3, e1, e2, lenV_sl EV, elem_in EV, view_sl EV, scalar_sl EV, cells_sl EV, pure_sl EV, Int.toNat_natCast, u4, r1, s19, gUn, decide_true, decide_false, Bool.or_true, Bool.true_or, Bool.or_false, Bool.not_true, Bool.not_false]
    cases r2 : inR y 0 (s.pl.length - 1)
    · simp (disch := first | assumption | omega | (simp only [az]; done)) only [ru, eq_self, if_true, if_false, BEq.rfl, binI, AO.row?, splice, fillL, mmAll, loadV, storeV, zeros, Am.rowAt, Am.part, addOff, Nat.reduceAdd, Nat.reduceMul, Nat.reduceLeDiff, Nat.reduceSub, Nat.reduceLT, Int.reduceEq, Int.reduceLT, Int.reduceLE, Int.reduceGT, Int.reduceGE, Int.reduceAdd, Int.reduceSub, Int.reduceMul, Int.reduceNeg, Int.reduceToNat, reduceCtorEq, reduceIte, lenV_sl H.p, lenV_sl H.b, elem_sp H.p, elem_bt H.b, view_sl H.p, view_sl H.b, scalar_sl H.p, scalar_sl H.b, cells_sl H.p, cells_sl H.b, pure_sl H.p, pure_sl H.b, Int.toNat_natCast, lenV_sl V, elem_in V, view_sl V, scalar_sl V, cells_sl V, pure_sl V, Int.toNat_natCast, g0, hv, hl, a1, hc, GO_mapp, unhN, unhC, A, rv, a2, a3, a4, n1, n2, s35, b1, u1, u2, u3, e1, e2, lenV_sl EV, elem_in EV, view_sl EV, scalar_sl EV, cells_sl EV, pure_sl EV, Int.toNat_natCast, u4, r1, r2, s19, gUn, decide_true, decide_false, Bool.or_true, Bool.true_or, Bool.or_false, Bool.not_true, Bool.not_false]
    by_cases r3 : x ≥ y
    · simp (disch := first | assumption | omega | (simp only [az]; done)) only [ru, eq_self, if_true, if_false, BEq.rfl, binI, AO.row?, splice, fillL, mmAll, loadV, storeV, zeros, Am.rowAt, Am.part, addOff, Nat.reduceAdd, Nat.reduceMul, Nat.reduceLeDiff, Nat.reduceSub, Nat.reduceLT, Int.reduceEq, Int.reduceLT, Int.reduceLE, Int.reduceGT, Int.reduceGE, Int.reduceAdd, Int.reduceSub, Int.reduceMul, Int.reduceNeg, Int.reduceToNat, reduceCtorEq, reduceIte, lenV_sl H.p, lenV_sl H.b, elem_sp H.p, elem_bt H.b, view_sl H.p, view_sl H.b, scalar_sl H.p, scalar_sl H.b, cells_sl H.p, cells_sl H.b, pure_sl H.p, pure_sl H.b, Int.toNat_natCast, lenV_sl V, elem_in V, view_sl V, scalar_sl V, cells_sl V, pure_sl V, Int.toNat_natCast, g0, hv, hl, a1, hc, GO_mapp, unhN, unhC, A, rv, a2, a3, a4, n1, n2, s35, b1, u1, u2, u3, e1, e2, lenV_sl EV, elem_in EV, view_sl EV, scalar_sl EV, cells_sl EV, pure_sl EV, Int.toNat_natCast, u4, r1, r2, r3, s19, gUn, decide_true, decide_false, Bool.or_true, Bool.true_or, Bool.or_false, Bool.not_true, Bool.not_false]
    obtain ⟨i, rfl, hi⟩ := tr x r1
    obtain ⟨j, rfl, hj⟩ := tr y r2
    by_cases r4 : (i : Int) > i0
    · simp (disch := first | assumption | omega | (simp only [az]; done)) only [ru, eq_self, if_true, if_false, BEq.rfl, binI, AO.row?, splice, fillL, mmAll, loadV, storeV, zeros, Am.rowAt, Am.part, addOff, Nat.reduceAdd, Nat.reduceMul, Nat.reduceLeDiff, Nat.reduceSub, Nat.reduceLT, Int.reduceEq, Int.reduceLT, Int.reduceLE, Int.reduceGT, Int.reduceGE, Int.reduceAdd, Int.reduceSub, Int.reduceMul, Int.reduceNeg, Int.reduceToNat, reduceCtorEq, reduceIte, lenV_sl H.p, lenV_sl H.b, elem_sp H.p, elem_bt H.b, view_sl H.p, view_sl H.b, scalar_sl H.p, scalar_sl H.b, cells_sl H.p, cells_sl H.b, pure_sl H.p, pure_sl H.b, Int.toNat_natCast, lenV_sl V, elem_in V, view_sl V, scalar_sl V, cells_sl V, pure_sl V, Int.toNat_natCast, g0, hv, hl, a1, hc, GO_mapp, unhN, unhC, A, rv, a2, a3, a4, n1, n2, s35, b1, u1, u2, u3, e1, e2, lenV_sl EV, elem_in EV, view_sl EV, scalar_sl EV, cells_sl EV, pure_sl EV, Int.toNat_natCast, u4, r1, r2, r3, r4, s19, gUn, decide_true, decide_false, Bool.or_true, Bool.true_or, Bool.or_false, Bool.not_true, Bool.not_false]
    have fin : ¬ ((i : Int) = i0 ∧ (j : Int) ≥ j0) → lft s (exch l i j) ≤ n := fun h => by
      have := t6 i j (Nat.zero_le _) (by omega) hj (by
        show i < i0 ∨ (i = i0 ∧ j < j0)
        omega)
      omega
    obtain ⟨yv, YV, y1, y2⟩ := ex i j hi hj
    have g := ge0 i j hi hj
    obtain ⟨w, hw⟩ : ∃ w, w = lft s (exch l i j) := ⟨_, rfl⟩
    simp only [← hw] at y2 g fin
    by_cases r5 : (i : Int) = i0
    · have r5' : i = i0 := by omega
      subst r5'
      by_cases r6 : (j : Int) ≥ j0
      · simp (disch := first | assumption | omega | (simp only [az]; done)) only [ru, eq_self, if_true, if_false, BEq.rfl, binI, AO.row?, splice, fillL, mmAll, loadV, storeV, zeros, Am.rowAt, Am.part, addOff, Nat.reduceAdd, Nat.reduceMul, Nat.reduceLeDiff, Nat.reduceSub, Nat.reduceLT, Int.reduceEq, Int.reduceLT, Int.reduceLE, Int.reduceGT, Int.reduceGE, Int.reduceAdd, Int.reduceSub, Int.reduceMul, Int.reduceNeg, Int.reduceToNat, reduceCtorEq, reduceIte, lenV_sl H.p, lenV_sl H.b, elem_sp H.p, elem_bt H.b, view_sl H.p, view_sl H.b, scalar_sl H.p, scalar_sl H.b, cells_sl H.p, cells_sl H.b, pure_sl H.p, pure_sl H.b, Int.toNat_natCast, lenV_sl V, elem_in V, view_sl V, scalar_sl V, cells_sl V, pure_sl V, Int.toNat_natCast, g0, hv, hl, a1, hc, GO_mapp, unhN, unhC, A, rv, a2, a3, a4, n1, n2, s35, b1, u1, u2, u3, e1, e2, lenV_sl EV, elem_in EV, view_sl EV, scalar_sl EV, cells_sl EV, pure_sl EV, Int.toNat_natCast, u4, r2, r3, r4, r6, s19, gUn, decide_true, decide_false, Bool.or_true, Bool.true_or, Bool.or_false, Bool.not_true, Bool.not_false]
      · have le := fin (by omega)
        simp (disch := first | assumption | omega | (simp only [az]; done)) only [ru, eq_self, if_true, if_false, BEq.rfl, binI, AO.row?, splice, fillL, mmAll, loadV, storeV, zeros, Am.rowAt, Am.part, addOff, Nat.reduceAdd, Nat.reduceMul, Nat.reduceLeDiff, Nat.reduceSub, Nat.reduceLT, Int.reduceEq, Int.reduceLT, Int.reduceLE, Int.reduceGT, Int.reduceGE, Int.reduceAdd, Int.reduceSub, Int.reduceMul, Int.reduceNeg, Int.reduceToNat, reduceCtorEq, reduceIte, lenV_sl H.p, lenV_sl H.b, elem_sp H.p, elem_bt H.b, view_sl H.p, view_sl H.b, scalar_sl H.p, scalar_sl H.b, cells_sl H.p, cells_sl H.b, pure_sl H.p, pure_sl H.b, Int.toNat_natCast, lenV_sl V, elem_in V, view_sl V, scalar_sl V, cells_sl V, pure_sl V, Int.toNat_natCast, g0, hv, hl, a1, hc, GO_mapp, unhN, unhC, A, rv, a2, a3, a4, n1, n2, s35, b1, u1, u2, u3, e1, e2, lenV_sl EV, elem_in EV, view_sl EV, scalar_sl EV, cells_sl EV, pure_sl EV, Int.toNat_natCast, u4, r2, r3, r4, r6, y1, y2, lenV_sl YV, elem_in YV, view_sl YV, scalar_sl YV, cells_sl YV, pure_sl YV, Int.toNat_natCast, g, le, s19, gUn, decide_true, decide_false, Bool.or_true, Bool.true_or, Bool.or_false, Bool.not_true, Bool.not_false]
    · have le := fin (by omega)
      simp (disch := first | assumption | omega | (simp only [az]; done)) only [ru, eq_self, if_true, if_false, BEq.rfl, binI, AO.row?, splice, fillL, mmAll, loadV, storeV, zeros, Am.rowAt, Am.part, addOff, Nat.reduceAdd, Nat.reduceMul, Nat.reduceLeDiff, Nat.reduceSub, Nat.reduceLT, Int.reduceEq, Int.reduceLT, Int.reduceLE, Int.reduceGT, Int.reduceGE, Int.reduceAdd, Int.reduceSub, Int.reduceMul, Int.reduceNeg, Int.reduceToNat, reduceCtorEq, reduceIte, lenV_sl H.p, lenV_sl H.b, elem_sp H.p, elem_bt H.b, view_sl H.p, view_sl H.b, scalar_sl H.p, scalar_sl H.b, cells_sl H.p, cells_sl H.b, pure_sl H.p, pure_sl H.b, Int.toNat_natCast, lenV_sl V, elem_in V, view_sl V, scalar_sl V, cells_sl V, pure_sl V, Int.toNat_natCast, g0, hv, hl, a1, hc, GO_mapp, unhN, unhC, A, rv, a2, a3, a4, n1, n2, s35, b1, u1, u2, u3, e1, e2, lenV_sl EV, elem_in EV, view_sl EV, scalar_sl EV, cells_sl EV, pure_sl EV, Int.toNat_natCast, u4, r1, r2, r3, r4, r5, y1, y2, lenV_sl YV, elem_in YV, view_sl YV, scalar_sl YV, cells_sl YV, pure_sl YV, Int.toNat_natCast, g, le, s19, gUn, decide_true, decide_false, Bool.or_true, Bool.true_or, Bool.or_false, Bool.not_true, Bool.not_false]
end
end Go.Proofs.Ytdmhbefdidmliaa.S

