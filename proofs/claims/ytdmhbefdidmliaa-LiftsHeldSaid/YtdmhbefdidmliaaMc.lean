/-
LiftsHeld: what a crew holds, and what surely holds.
-/
import Derived.Test.YtdmhbefdidmliaaS3
namespace Go.Proofs.Ytdmhbefdidmliaa.S
open Go Go.Am Go.Proofs.Ytdmhbefdidmliaa.T
set_option maxRecDepth 100000
set_option linter.unusedSimpArgs false
set_option linter.unusedVariables false

section
variable {s : Sea} {p b : AV} {l : List Int} {v : AV}
theorem held_no (K : SeaG s) (hl : l.length = s.pl.length) {w : Int} {q : List Int} (w1 : s.w.lo ≤ w) (w2 : w ≤ s.w.hi) (hq : areP s.pl q = true) (h : s.w.hi ≤ lft s l) : ovr s l w q = false := by
  have := K.w0; have := K.w2
  exact (safe_iff K hl (by omega)).2 ((le_lft K hl (by omega)).1 (by omega)) q (mem_pts.2 (areP_iff.1 hq))
theorem held_yes (K : SeaG s) (hl : l.length = s.pl.length) {w : Int} {q : List Int} (w1 : s.w.lo ≤ w) (hq : areP s.pl q = true) (h : canB s l = false) : ovr s l w q = true := by
  cases ho : ovr s l w q
  · have hq' := areP_iff.1 hq
    have hi := InL_iff.1 hq'.1
    have : canB s l = true := by
      refine (can_iff K hl).2 ⟨q, mem_pts.2 hq', ovr_no.2 fun i hi' => ?_⟩
      have h1 := ovr_no.1 ho i hi'
      have h2 := hi.2 i (by omega)
      have h3 := K.sp.at (p := i) (by omega)
      have := Int.mul_le_mul_of_nonneg_right w1 (show 0 ≤ q.getD i 0 by omega)
      omega
    rw [h] at this; cases this
  · rfl

set_option maxHeartbeats 4000000 in
theorem s4 (H0 : SeaIn s p b) (V : IsSl 1 intL l v) (w : Int) {q : List Int} {u : AV} (U : IsSl 1 intL q u) (st : Bool) : Iso E 4 [seaV s p b, v, .agg [I w, u]] st = some (Bo true) := by
  have g0 := fun st => s16 H0 st
  refine Iso_of (es _ _ _ _) e4 ?_
  simp only [f4, seaV] at g0 ⊢
  cases hv : s.valid
  case false => simp (disch := first | assumption | omega | (simp only [az]; done)) only [ru, eq_self, if_true, if_false, BEq.rfl, binI, AO.row?, splice, fillL, mmAll, loadV, storeV, zeros, Am.rowAt, Am.part, addOff, Nat.reduceAdd, Nat.reduceMul, Nat.reduceLeDiff, Nat.reduceSub, Nat.reduceLT, Int.reduceEq, Int.reduceLT, Int.reduceLE, Int.reduceGT, Int.reduceGE, Int.reduceAdd, Int.reduceSub, Int.reduceMul, Int.reduceNeg, Int.reduceToNat, reduceCtorEq, reduceIte, lenV_sl H0.p, lenV_sl H0.b, elem_sp H0.p, elem_bt H0.b, view_sl H0.p, view_sl H0.b, scalar_sl H0.p, scalar_sl H0.b, cells_sl H0.p, cells_sl H0.b, pure_sl H0.p, pure_sl H0.b, Int.toNat_natCast, lenV_sl V, elem_in V, view_sl V, scalar_sl V, cells_sl V, pure_sl V, Int.toNat_natCast, g0, hv, gUn, s19]
  by_cases hl : (l.length : Int) > 40
  · simp (disch := first | assumption | omega | (simp only [az]; done)) only [ru, eq_self, if_true, if_false, BEq.rfl, binI, AO.row?, splice, fillL, mmAll, loadV, storeV, zeros, Am.rowAt, Am.part, addOff, Nat.reduceAdd, Nat.reduceMul, Nat.reduceLeDiff, Nat.reduceSub, Nat.reduceLT, Int.reduceEq, Int.reduceLT, Int.reduceLE, Int.reduceGT, Int.reduceGE, Int.reduceAdd, Int.reduceSub, Int.reduceMul, Int.reduceNeg, Int.reduceToNat, reduceCtorEq, reduceIte, lenV_sl H0.p, lenV_sl H0.b, elem_sp H0.p, elem_bt H0.b, view_sl H0.p, view_sl H0.b, scalar_sl H0.p, scalar_sl H0.b, cells_sl H0.p, cells_sl H0.b, pure_sl H0.p, pure_sl H0.b, Int.toNat_natCast, lenV_sl V, elem_in V, view_sl V, scalar_sl V, cells_sl V, pure_sl V, Int.toNat_natCast, g0, hv, hl, decide_true, gUn, s19]
  have K := (valid_good hv).1
  have H : SeaOk s p b := ⟨H0, by have := K.sp.le; omega, by have := K.nb; omega⟩
  have a1 := fun st => s26 H V (by omega) st
  simp only [seaV] at a1
  cases hc : crB s l
  · simp (disch := first | assumption | omega | (simp only [az]; done)) only [ru, eq_self, if_true, if_false, BEq.rfl, binI, AO.row?, splice, fillL, mmAll, loadV, storeV, zeros, Am.rowAt, Am.part, addOff, Nat.reduceAdd, Nat.reduceMul, Nat.reduceLeDiff, Nat.reduceSub, Nat.reduceLT, Int.reduceEq, Int.reduceLT, Int.reduceLE, Int.reduceGT, Int.reduceGE, Int.reduceAdd, Int.reduceSub, Int.reduceMul, Int.reduceNeg, Int.reduceToNat, reduceCtorEq, reduceIte, lenV_sl H0.p, lenV_sl H0.b, elem_sp H0.p, elem_bt H0.b, view_sl H0.p, view_sl H0.b, scalar_sl H0.p, scalar_sl H0.b, cells_sl H0.p, cells_sl H0.b, pure_sl H0.p, pure_sl H0.b, Int.toNat_natCast, lenV_sl V, elem_in V, view_sl V, scalar_sl V, cells_sl V, pure_sl V, Int.toNat_natCast, g0, hv, hl, a1, hc, decide_false, s19, gUn]
  obtain ⟨c1, c2⟩ := cr_at hc
  obtain ⟨cw, x0, x1, A, RD⟩ := cpyG (eb := 8) (lim := 0) (J := []) (h := [.cells [I s.w.lo, I s.w.hi, p, b] false, .cells [I w, u] false]) V intE intSc (by omega) (by omega) (Nat.zero_le _)
  have rv := fun st => (RD []).view intE intIv (st := st) (k := 7)
  simp only [apC, apN, lenS, len0, Nat.zero_add, Nat.reduceAdd] at A rv
  have W := slV_is (esz := 1) (enc := intL) (l := l)
  have a2 := fun st => s27 H W (by omega) st
  have a3 := fun st => s28 H hv V (by omega) st
  have a4 := s20 H hv
  have NV := resL_is (nds s)
  have a5 := fun st => s29 H V (by omega) c2 NV st
  obtain ⟨nv, hnv⟩ : ∃ nv, nv = resL (nds s) := ⟨_, rfl⟩
  rw [← hnv] at NV
  have l1 : 0 ≤ lft s l := lftU_ge K (l := l) (k := l.length) (by omega)
  have l2 : lft s l ≤ 2000 := lftU_le
  have n1 : ¬ lft s l < 0 := by omega
  have hf := fts_lft K c1
  have key1 := fun (w1 : s.w.lo ≤ w) (w2 : w ≤ s.w.hi) (hq : areP s.pl q = true) (h : s.w.hi ≤ lft s l) => held_no K c1 w1 w2 hq h
  have key2 := fun (w1 : s.w.lo ≤ w) (hq : areP s.pl q = true) (h : canB s l = false) => held_yes K c1 w1 hq h
  have ov := fun (w1 : s.w.lo ≤ w) (w2 : w ≤ s.w.hi) (hq : areP s.pl q = true) st => s30 H K V (by omega) c2 (w := w) (by have := K.w0; omega) (by have := K.w2; omega) U ((InL_iff.1 (areP_iff.1 hq).1).1)
    (fun i hi => by have h1 := InL_iff.1 (areP_iff.1 hq).1; have h2 := h1.2 i (by omega); have h3 := K.sp.at (p := i) (by omega); omega) st
  simp only [seaV, safR, saf, hv, hc, if_true, canV, ← hnv, hf] at a2 a3 a4 a5 ov
  obtain ⟨n, hn⟩ : ∃ n, n = lft s l := ⟨_, rfl⟩
  simp only [← hn] at a2 a3 a5 key1 l1 l2 n1
  have zz : ∃ z : Int, (if s.w.hi ≤ n then (1 : Int) else if canB s l then 3 else 2) = z ∧ (z = 1 ∧ s.w.hi ≤ n ∨ z = 2 ∧ ¬ s.w.hi ≤ n ∧ canB s l = false ∨ z = 3 ∧ ¬ s.w.hi ≤ n) := by
    by_cases h1 : s.w.hi ≤ n
    · exact ⟨1, if_pos h1, .inl ⟨rfl, h1⟩⟩
    · cases h2 : canB s l
      · exact ⟨2, by rw [if_neg h1]; rfl, .inr (.inl ⟨rfl, h1, rfl⟩)⟩
      · exact ⟨3, by rw [if_neg h1]; rfl, .inr (.inr ⟨rfl, h1⟩)⟩
  obtain ⟨z, ez, hz⟩ := zz
  rw [ez] at a2
  clear ez
  have i1 : inR 1 1 3 = true := rfl
  have i2 : inR 2 1 3 = true := rfl
  have i3 : inR 3 1 3 = true := rfl
  rcases hz with ⟨rfl, hw⟩ | ⟨rfl, hw, hcan⟩ | ⟨rfl, hw⟩
  all_goals
    have hw' : (n ≥ s.w.hi) = (s.w.hi ≤ n) := rfl
    by_cases hq : (q.length : Int) > 40
    · simp (disch := first | assumption | omega | (simp only [az]; done)) only [ru, eq_self, if_true, if_false, BEq.rfl, binI, AO.row?, splice, fillL, mmAll, loadV, storeV, zeros, Am.rowAt, Am.part, addOff, Nat.reduceAdd, Nat.reduceMul, Nat.reduceLeDiff, Nat.reduceSub, Nat.reduceLT, Int.reduceEq, Int.reduceLT, Int.reduceLE, Int.reduceGT, Int.reduceGE, Int.reduceAdd, Int.reduceSub, Int.reduceMul, Int.reduceNeg, Int.reduceToNat, reduceCtorEq, reduceIte, lenV_sl H.p, lenV_sl H.b, elem_sp H.p, elem_bt H.b, view_sl H.p, view_sl H.b, scalar_sl H.p, scalar_sl H.b, cells_sl H.p, cells_sl H.b, pure_sl H.p, pure_sl H.b, Int.toNat_natCast, lenV_sl V, elem_in V, view_sl V, scalar_sl V, cells_sl V, pure_sl V, Int.toNat_natCast, lenV_sl U, elem_in U, view_sl U, scalar_sl U, cells_sl U, pure_sl U, Int.toNat_natCast, lenV_sl NV, elem_in NV, view_sl NV, scalar_sl NV, cells_sl NV, pure_sl NV, Int.toNat_natCast, g0, hv, hl, a1, hc, decide_false, GO_mapp, unhN, unhC, A, rv, a2, a3, a4, a5, n1, s17, i1, i2, i3, hw, hw', hq, s19, decide_true, bne_self_eq_false, Bool.not_true]
    cases hr : inR w s.w.lo s.w.hi
    · simp (disch := first | assumption | omega | (simp only [az]; done)) only [ru, eq_self, if_true, if_false, BEq.rfl, binI, AO.row?, splice, fillL, mmAll, loadV, storeV, zeros, Am.rowAt, Am.part, addOff, Nat.reduceAdd, Nat.reduceMul, Nat.reduceLeDiff, Nat.reduceSub, Nat.reduceLT, Int.reduceEq, Int.reduceLT, Int.reduceLE, Int.reduceGT, Int.reduceGE, Int.reduceAdd, Int.reduceSub, Int.reduceMul, Int.reduceNeg, Int.reduceToNat, reduceCtorEq, reduceIte, lenV_sl H.p, lenV_sl H.b, elem_sp H.p, elem_bt H.b, view_sl H.p, view_sl H.b, scalar_sl H.p, scalar_sl H.b, cells_sl H.p, cells_sl H.b, pure_sl H.p, pure_sl H.b, Int.toNat_natCast, lenV_sl V, elem_in V, view_sl V, scalar_sl V, cells_sl V, pure_sl V, Int.toNat_natCast, lenV_sl U, elem_in U, view_sl U, scalar_sl U, cells_sl U, pure_sl U, Int.toNat_natCast, lenV_sl NV, elem_in NV, view_sl NV, scalar_sl NV, cells_sl NV, pure_sl NV, Int.toNat_natCast, g0, hv, hl, a1, hc, decide_false, GO_mapp, unhN, unhC, A, rv, a2, a3, a4, a5, n1, s17, i1, i2, i3, hw, hw', hq, hr, s19, decide_true, bne_self_eq_false, Bool.not_true]
    have a6 := fun st => s18 H K.sp U (by omega) st
    simp only [seaV] at a6
    cases hp : areP s.pl q
    · simp (disch := first | assumption | omega | (simp only [az]; done)) only [ru, eq_self, if_true, if_false, BEq.rfl, binI, AO.row?, splice, fillL, mmAll, loadV, storeV, zeros, Am.rowAt, Am.part, addOff, Nat.reduceAdd, Nat.reduceMul, Nat.reduceLeDiff, Nat.reduceSub, Nat.reduceLT, Int.reduceEq, Int.reduceLT, Int.reduceLE, Int.reduceGT, Int.reduceGE, Int.reduceAdd, Int.reduceSub, Int.reduceMul, Int.reduceNeg, Int.reduceToNat, reduceCtorEq, reduceIte, lenV_sl H.p, lenV_sl H.b, elem_sp H.p, elem_bt H.b, view_sl H.p, view_sl H.b, scalar_sl H.p, scalar_sl H.b, cells_sl H.p, cells_sl H.b, pure_sl H.p, pure_sl H.b, Int.toNat_natCast, lenV_sl V, elem_in V, view_sl V, scalar_sl V, cells_sl V, pure_sl V, Int.toNat_natCast, lenV_sl U, elem_in U, view_sl U, scalar_sl U, cells_sl U, pure_sl U, Int.toNat_natCast, lenV_sl NV, elem_in NV, view_sl NV, scalar_sl NV, cells_sl NV, pure_sl NV, Int.toNat_natCast, g0, hv, hl, a1, hc, decide_false, GO_mapp, unhN, unhC, A, rv, a2, a3, a4, a5, n1, s17, i1, i2, i3, hw, hw', hq, hr, a6, hp, s19, decide_true, bne_self_eq_false, Bool.not_true]
    have w1 := (inR_iff.1 hr).1
    have w2 := (inR_iff.1 hr).2
    have a7 := fun st => ov w1 w2 hp st
    first
      | have ko := key1 w1 w2 hp hw
      | have ko := key2 w1 hp hcan
      | (cases ko : ovr s l w q)
    all_goals
      simp (disch := first | assumption | omega | (simp only [az]; done)) only [ru, eq_self, if_true, if_false, BEq.rfl, binI, AO.row?, splice, fillL, mmAll, loadV, storeV, zeros, Am.rowAt, Am.part, addOff, Nat.reduceAdd, Nat.reduceMul, Nat.reduceLeDiff, Nat.reduceSub, Nat.reduceLT, Int.reduceEq, Int.reduceLT, Int.reduceLE, Int.reduceGT, Int.reduceGE, Int.reduceAdd, Int.reduceSub, Int.reduceMul, Int.reduceNeg, Int.reduceToNat, reduceCtorEq, reduceIte, lenV_sl H.p, lenV_sl H.b, elem_sp H.p, elem_bt H.b, view_sl H.p, view_sl H.b, scalar_sl H.p, scalar_sl H.b, cells_sl H.p, cells_sl H.b, pure_sl H.p, pure_sl H.b, Int.toNat_natCast, lenV_sl V, elem_in V, view_sl V, scalar_sl V, cells_sl V, pure_sl V, Int.toNat_natCast, lenV_sl U, elem_in U, view_sl U, scalar_sl U, cells_sl U, pure_sl U, Int.toNat_natCast, lenV_sl NV, elem_in NV, view_sl NV, scalar_sl NV, cells_sl NV, pure_sl NV, Int.toNat_natCast, g0, hv, hl, a1, hc, decide_false, GO_mapp, unhN, unhC, A, rv, a2, a3, a4, a5, n1, s17, i1, i2, i3, hw, hw', hq, hr, a6, hp, a7, ko, s19, decide_true, bne_self_eq_false, Bool.not_true]
end
end Go.Proofs.Ytdmhbefdidmliaa.S

