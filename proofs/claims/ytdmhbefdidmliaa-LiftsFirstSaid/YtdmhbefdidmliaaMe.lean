/-
LiftsFirst: which boat is over its load first.
-/
import Derived.Test.YtdmhbefdidmliaaS3
namespace Go.Proofs.Ytdmhbefdidmliaa.S
open Go Go.Am Go.Proofs.Ytdmhbefdidmliaa.T
set_option maxRecDepth 100000
set_option linter.unusedSimpArgs false
set_option linter.unusedVariables false

section
variable {s : Sea} {p b : AV} {l : List Int} {v : AV}
theorem lift_holds (K : SeaG s) (hl : l.length = s.pl.length) {q : List Int} (hq : areP s.pl q = true) : ovr s l (lft s l) q = false := by
  have l1 : 0 ≤ lft s l := lftU_ge K (l := l) (k := l.length) (by omega)
  exact (safe_iff K hl l1).2 ((le_lft K hl lftU_le).1 (Int.le_refl _)) q (mem_pts.2 (areP_iff.1 hq))
theorem first_over (K : SeaG s) (hl : l.length = s.pl.length) (hh : lft s l < 2000) : ¬ (lft s l + 1) * shH s.pl (frI s l l.length) ≤ 12 * (boat s (l.getD (frI s l l.length) 0)).c := by
  obtain ⟨h1, h2, h3⟩ := frI_spec hh
  intro h
  have h2' : brs s.pl (boat s (l.getD (frI s l l.length) 0)).c (frI s l l.length) = lft s l := h2
  have := (le_brs K.sp (p := frI s l l.length) (by omega) (boat_ok K _).1 (show lft s l + 1 ≤ 2000 by omega)).2 h
  omega
theorem before_ok (K : SeaG s) (hl : l.length = s.pl.length) (hh : lft s l < 2000) {q : List Int} (hq : areP s.pl q = true) {i : Nat} (hi : i < frI s l l.length) : 0 ≤ (lft s l + 1) * q.getD i 0 ∧ (lft s l + 1) * q.getD i 0 ≤ 12 * (boat s (l.getD i 0)).c := by
  obtain ⟨h1, h2, h3⟩ := frI_spec hh
  have l1 : 0 ≤ lft s l := lftU_ge K (l := l) (k := l.length) (by omega)
  have h4 : lft s l < brs s.pl (boat s (l.getD i 0)).c i := h3 i hi
  have h5 := (le_brs K.sp (p := i) (by omega) (boat_ok K (l.getD i 0)).1 (show lft s l + 1 ≤ 2000 by omega)).1 (by omega)
  have hq' := areP_iff.1 hq
  have h6 := shr_ok hq'.1 hq'.2 (p := i) (by omega)
  have h7 := (InL_iff.1 hq'.1).2 i (by omega)
  have h8 := K.sp.at (p := i) (by omega)
  have := Int.mul_le_mul_of_nonneg_left h6.2 (show 0 ≤ lft s l + 1 by omega)
  have := Int.mul_nonneg (show 0 ≤ lft s l + 1 by omega) (show 0 ≤ q.getD i 0 by omega)
  omega

set_option maxHeartbeats 4000000 in
theorem s6 (H0 : SeaIn s p b) (V : IsSl 1 intL l v) {q : List Int} {u : AV} (U : IsSl 1 intL q u) (st : Bool) : Iso E 6 [seaV s p b, v, u] st = some (Bo true) := by
  have g0 := fun st => s16 H0 st
  refine Iso_of (es _ _ _ _) e6 ?_
  simp only [f6, seaV] at g0 ⊢
  cases hv : s.valid
  case false => simp (disch := first | assumption | omega | (simp only [az]; done)) only [ru, eq_self, if_true, if_false, BEq.rfl, binI, AO.row?, splice, fillL, mmAll, loadV, storeV, zeros, Am.rowAt, Am.part, addOff, Nat.reduceAdd, Nat.reduceMul, Nat.reduceLeDiff, Nat.reduceSub, Nat.reduceLT, Int.reduceEq, Int.reduceLT, Int.reduceLE, Int.reduceGT, Int.reduceGE, Int.reduceAdd, Int.reduceSub, Int.reduceMul, Int.reduceNeg, Int.reduceToNat, reduceCtorEq, reduceIte, lenV_sl H0.p, lenV_sl H0.b, elem_sp H0.p, elem_bt H0.b, view_sl H0.p, view_sl H0.b, scalar_sl H0.p, scalar_sl H0.b, cells_sl H0.p, cells_sl H0.b, pure_sl H0.p, pure_sl H0.b, Int.toNat_natCast, lenV_sl V, elem_in V, view_sl V, scalar_sl V, cells_sl V, pure_sl V, Int.toNat_natCast, g0, hv, gUn, s19]
  by_cases hl : (l.length : Int) > 40
  · simp (disch := first | assumption | omega | (simp only [az]; done)) only [ru, eq_self, if_true, if_false, BEq.rfl, binI, AO.row?, splice, fillL, mmAll, loadV, storeV, zeros, Am.rowAt, Am.part, addOff, Nat.reduceAdd, Nat.reduceMul, Nat.reduceLeDiff, Nat.reduceSub, Nat.reduceLT, Int.reduceEq, Int.reduceLT, Int.reduceLE, Int.reduceGT, Int.reduceGE, Int.reduceAdd, Int.reduceSub, Int.reduceMul, Int.reduceNeg, Int.reduceToNat, reduceCtorEq, reduceIte, lenV_sl H0.p, lenV_sl H0.b, elem_sp H0.p, elem_bt H0.b, view_sl H0.p, view_sl H0.b, scalar_sl H0.p, scalar_sl H0.b, cells_sl H0.p, cells_sl H0.b, pure_sl H0.p, pure_sl H0.b, Int.toNat_natCast, lenV_sl V, elem_in V, view_sl V, scalar_sl V, cells_sl V, pure_sl V, Int.toNat_natCast, g0, hv, hl, decide_true, gUn, s19]
  by_cases hl2 : (q.length : Int) > 40
  · simp (disch := first | assumption | omega | (simp only [az]; done)) only [ru, eq_self, if_true, if_false, BEq.rfl, binI, AO.row?, splice, fillL, mmAll, loadV, storeV, zeros, Am.rowAt, Am.part, addOff, Nat.reduceAdd, Nat.reduceMul, Nat.reduceLeDiff, Nat.reduceSub, Nat.reduceLT, Int.reduceEq, Int.reduceLT, Int.reduceLE, Int.reduceGT, Int.reduceGE, Int.reduceAdd, Int.reduceSub, Int.reduceMul, Int.reduceNeg, Int.reduceToNat, reduceCtorEq, reduceIte, lenV_sl H0.p, lenV_sl H0.b, elem_sp H0.p, elem_bt H0.b, view_sl H0.p, view_sl H0.b, scalar_sl H0.p, scalar_sl H0.b, cells_sl H0.p, cells_sl H0.b, pure_sl H0.p, pure_sl H0.b, Int.toNat_natCast, lenV_sl V, elem_in V, view_sl V, scalar_sl V, cells_sl V, pure_sl V, Int.toNat_natCast, lenV_sl U, elem_in U, view_sl U, scalar_sl U, cells_sl U, pure_sl U, Int.toNat_natCast, g0, hv, hl, hl2, decide_true, gUn, s19]
  have K := (valid_good hv).1
  have H : SeaOk s p b := ⟨H0, by have := K.sp.le; omega, by have := K.nb; omega⟩
  have a1 := fun st => s26 H V (by omega) st
  have a2 := fun st => s18 H K.sp U (by omega) st
  simp only [seaV] at a1 a2
  cases hc : crB s l
  · simp (disch := first | assumption | omega | (simp only [az]; done)) only [ru, eq_self, if_true, if_false, BEq.rfl, binI, AO.row?, splice, fillL, mmAll, loadV, storeV, zeros, Am.rowAt, Am.part, addOff, Nat.reduceAdd, Nat.reduceMul, Nat.reduceLeDiff, Nat.reduceSub, Nat.reduceLT, Int.reduceEq, Int.reduceLT, Int.reduceLE, Int.reduceGT, Int.reduceGE, Int.reduceAdd, Int.reduceSub, Int.reduceMul, Int.reduceNeg, Int.reduceToNat, reduceCtorEq, reduceIte, lenV_sl H0.p, lenV_sl H0.b, elem_sp H0.p, elem_bt H0.b, view_sl H0.p, view_sl H0.b, scalar_sl H0.p, scalar_sl H0.b, cells_sl H0.p, cells_sl H0.b, pure_sl H0.p, pure_sl H0.b, Int.toNat_natCast, lenV_sl V, elem_in V, view_sl V, scalar_sl V, cells_sl V, pure_sl V, Int.toNat_natCast, lenV_sl U, elem_in U, view_sl U, scalar_sl U, cells_sl U, pure_sl U, Int.toNat_natCast, g0, hv, hl, hl2, a1, hc, decide_false, s19, gUn]
  cases hp : areP s.pl q
  · simp (disch := first | assumption | omega | (simp only [az]; done)) only [ru, eq_self, if_true, if_false, BEq.rfl, binI, AO.row?, splice, fillL, mmAll, loadV, storeV, zeros, Am.rowAt, Am.part, addOff, Nat.reduceAdd, Nat.reduceMul, Nat.reduceLeDiff, Nat.reduceSub, Nat.reduceLT, Int.reduceEq, Int.reduceLT, Int.reduceLE, Int.reduceGT, Int.reduceGE, Int.reduceAdd, Int.reduceSub, Int.reduceMul, Int.reduceNeg, Int.reduceToNat, reduceCtorEq, reduceIte, lenV_sl H0.p, lenV_sl H0.b, elem_sp H0.p, elem_bt H0.b, view_sl H0.p, view_sl H0.b, scalar_sl H0.p, scalar_sl H0.b, cells_sl H0.p, cells_sl H0.b, pure_sl H0.p, pure_sl H0.b, Int.toNat_natCast, lenV_sl V, elem_in V, view_sl V, scalar_sl V, cells_sl V, pure_sl V, Int.toNat_natCast, lenV_sl U, elem_in U, view_sl U, scalar_sl U, cells_sl U, pure_sl U, Int.toNat_natCast, g0, hv, hl, hl2, a1, hc, a2, hp, decide_false, s19, gUn]
  obtain ⟨c1, c2⟩ := cr_at hc
  obtain ⟨cw, x0, x1, A, RD⟩ := cpyG (eb := 8) (lim := 0) (J := []) (h := [.cells [I s.w.lo, I s.w.hi, p, b] false]) V intE intSc (by omega) (by omega) (Nat.zero_le _)
  have rv := fun st => (RD []).view intE intIv (st := st) (k := 7)
  simp only [apC, apN, lenS, len0, Nat.zero_add, Nat.reduceAdd] at A rv
  have W := slV_is (esz := 1) (enc := intL) (l := l)
  have a3 := fun st => s28 H hv V (by omega) st
  have a4 := fun st => s38 H W (by omega) st
  have ql : q.length = s.pl.length := (InL_iff.1 (areP_iff.1 hp).1).1
  have qb : ∀ i, i < q.length → 0 ≤ q.getD i 0 ∧ q.getD i 0 ≤ 12 := fun i hi => by
    have h1 := InL_iff.1 (areP_iff.1 hp).1; have h2 := h1.2 i (by omega); have h3 := K.sp.at (p := i) (by omega); omega
  have l1 : 0 ≤ lft s l := lftU_ge K (l := l) (k := l.length) (by omega)
  have l2 : lft s l ≤ 2000 := lftU_le
  have n1 : ¬ lft s l < 0 := by omega
  have a5 := fun st => s30 H K V (by omega) c2 l1 l2 U ql qb st
  have k0 := lift_holds K c1 hp
  have k1 := fun hh => first_over K c1 hh
  have k2 := fun hh i hi => before_ok K c1 hh hp (i := i) hi
  have k3 := fun hh => (frI_spec (s := s) (l := l) (k := l.length) hh).1
  simp only [seaV, firR, hv, hc, if_true, canV, k0] at a3 a4 a5
  obtain ⟨n, hn⟩ : ∃ n, n = lft s l := ⟨_, rfl⟩
  obtain ⟨f, hf⟩ : ∃ f, f = frI s l l.length := ⟨_, rfl⟩
  simp only [← hn, ← hf] at a3 a4 a5 k1 k2 k3 l1 l2 n1
  by_cases hh : n < 2000
  case neg =>
    have e2 : n = 2000 := by omega
    subst e2
    simp only [Int.lt_irrefl, if_false] at a4
    simp (disch := first | assumption | omega | (simp only [az]; done)) only [ru, eq_self, if_true, if_false, BEq.rfl, binI, AO.row?, splice, fillL, mmAll, loadV, storeV, zeros, Am.rowAt, Am.part, addOff, Nat.reduceAdd, Nat.reduceMul, Nat.reduceLeDiff, Nat.reduceSub, Nat.reduceLT, Int.reduceEq, Int.reduceLT, Int.reduceLE, Int.reduceGT, Int.reduceGE, Int.reduceAdd, Int.reduceSub, Int.reduceMul, Int.reduceNeg, Int.reduceToNat, reduceCtorEq, reduceIte, lenV_sl H.p, lenV_sl H.b, elem_sp H.p, elem_bt H.b, view_sl H.p, view_sl H.b, scalar_sl H.p, scalar_sl H.b, cells_sl H.p, cells_sl H.b, pure_sl H.p, pure_sl H.b, Int.toNat_natCast, lenV_sl V, elem_in V, view_sl V, scalar_sl V, cells_sl V, pure_sl V, Int.toNat_natCast, lenV_sl U, elem_in U, view_sl U, scalar_sl U, cells_sl U, pure_sl U, Int.toNat_natCast, g0, hv, hl, hl2, a1, hc, a2, hp, decide_false, GO_mapp, unhN, unhC, A, rv, a3, a4, a5, s35, n1, s19, gUn, decide_true, bne_self_eq_false, Bool.or_true, Bool.true_or, Bool.or_false, Bool.not_true]
  have e2 : ¬ n = 2000 := by omega
  have k1' := k1 hh
  have k3' := k3 hh
  have fl : f < s.pl.length := by omega
  have sh := shr_le K.sp fl
  have sh1 : ¬ shH s.pl f < 0 := by omega
  have sh2 : ¬ shH s.pl f > 12 := by omega
  have fi : inR (f : Int) 0 (s.pl.length - 1) = true := inR_iff.2 (by omega)
  have a6 := fun st => s25 H (f : Int) st
  have a7 := fun st => s22 H (f : Int) st
  have z1 := c2 f (by omega)
  have bx := boat_ok K (l.getD f 0)
  have p1 : 0 ≤ (n + 1) * shH s.pl f := Int.mul_nonneg (by omega) (by omega)
  have p2 : (n + 1) * shH s.pl f ≤ (n + 1) * 12 := Int.mul_le_mul_of_nonneg_left sh.2.2 (by omega)
  simp only [seaV, shrR, hv, fi, if_true, Int.toNat_natCast, boat] at a6 a7 k1' bx
  simp only [hh, if_true] at a4
  obtain ⟨x, hx⟩ : ∃ x, x = shH s.pl f := ⟨_, rfl⟩
  simp only [← hx] at a7 k1' p1 p2 sh1 sh2
  simp (disch := first | assumption | omega | (simp only [az]; done)) only [ru, eq_self, if_true, if_false, BEq.rfl, binI, AO.row?, splice, fillL, mmAll, loadV, storeV, zeros, Am.rowAt, Am.part, addOff, Nat.reduceAdd, Nat.reduceMul, Nat.reduceLeDiff, Nat.reduceSub, Nat.reduceLT, Int.reduceEq, Int.reduceLT, Int.reduceLE, Int.reduceGT, Int.reduceGE, Int.reduceAdd, Int.reduceSub, Int.reduceMul, Int.reduceNeg, Int.reduceToNat, reduceCtorEq, reduceIte, lenV_sl H.p, lenV_sl H.b, elem_sp H.p, elem_bt H.b, view_sl H.p, view_sl H.b, scalar_sl H.p, scalar_sl H.b, cells_sl H.p, cells_sl H.b, pure_sl H.p, pure_sl H.b, Int.toNat_natCast, lenV_sl V, elem_in V, view_sl V, scalar_sl V, cells_sl V, pure_sl V, Int.toNat_natCast, lenV_sl U, elem_in U, view_sl U, scalar_sl U, cells_sl U, pure_sl U, Int.toNat_natCast, g0, hv, hl, hl2, a1, hc, a2, hp, decide_false, GO_mapp, unhN, unhC, A, rv, a3, a4, a5, s35, n1, e2, s19, a6, a7, sh1, sh2, k1', z1, gUn, decide_true, bne_self_eq_false, Bool.or_true, Bool.true_or, Bool.or_false, Bool.not_true]
  refine G_loop_ind (fun m ts h mk => ∃ i : Nat, i ≤ f ∧ m = f - i ∧ ts.length = 138 ∧ ts.getD 1 .undef = v ∧ ts.getD 2 .undef = u ∧ ts.getD 3 .undef = .ptr 0 0 ∧ ts.getD 7 .undef = I n ∧ ts.getD 8 .undef = I f ∧ ts.getD 12 .undef = I i ∧ h = [.cells [I s.w.lo, I s.w.hi, p, b] false, x0, x1, .cells [I (shL s.pl f), I x] false] ∧ mk = []) ?_ _ _ _ _ ⟨0, Nat.zero_le _, rfl, rfl, rfl, rfl, rfl, rfl, rfl, rfl, rfl, rfl⟩
  rintro m ts h mk ih ⟨i, hi, rfl, hl', q1, q2, q3, q7, q8, q12, rfl, rfl⟩
  rw [lit_all hl']
  simp only [lit0, litS, Nat.reduceAdd, q1, q2, q3, q7, q8, q12]
  simp (disch := first | assumption | omega | (simp only [az]; done)) only [ru, eq_self, if_true, if_false, BEq.rfl, binI, AO.row?, splice, fillL, mmAll, loadV, storeV, zeros, Am.rowAt, Am.part, addOff, Nat.reduceAdd, Nat.reduceMul, Nat.reduceLeDiff, Nat.reduceSub, Nat.reduceLT, Int.reduceEq, Int.reduceLT, Int.reduceLE, Int.reduceGT, Int.reduceGE, Int.reduceAdd, Int.reduceSub, Int.reduceMul, Int.reduceNeg, Int.reduceToNat, reduceCtorEq, reduceIte]
  by_cases hlt : (i : Int) < f
  case pos =>
    have z2 := c2 i (by omega)
    have k4 := k2 hh i (by omega)
    have by' := boat_ok K (l.getD i 0)
    simp only [boat] at k4 by'
    have k5 : ¬ (n + 1) * q.getD i 0 > 12 * (s.bo.getD (l.getD i 0).toNat default).c := by omega
    simp (disch := first | assumption | omega | (simp only [az]; done)) only [ru, eq_self, if_true, if_false, BEq.rfl, binI, AO.row?, splice, fillL, mmAll, loadV, storeV, zeros, Am.rowAt, Am.part, addOff, Nat.reduceAdd, Nat.reduceMul, Nat.reduceLeDiff, Nat.reduceSub, Nat.reduceLT, Int.reduceEq, Int.reduceLT, Int.reduceLE, Int.reduceGT, Int.reduceGE, Int.reduceAdd, Int.reduceSub, Int.reduceMul, Int.reduceNeg, Int.reduceToNat, reduceCtorEq, reduceIte, lenV_sl H.p, lenV_sl H.b, elem_sp H.p, elem_bt H.b, view_sl H.p, view_sl H.b, scalar_sl H.p, scalar_sl H.b, cells_sl H.p, cells_sl H.b, pure_sl H.p, pure_sl H.b, Int.toNat_natCast, lenV_sl V, elem_in V, view_sl V, scalar_sl V, cells_sl V, pure_sl V, Int.toNat_natCast, lenV_sl U, elem_in U, view_sl U, scalar_sl U, cells_sl U, pure_sl U, Int.toNat_natCast, hlt, z2, k5, decide_false]
    exact ih (f - (i + 1)) _ _ _ (by omega) ⟨i + 1, by omega, rfl, rfl, rfl, rfl, rfl, rfl, rfl, rfl, rfl, rfl⟩
  simp (disch := first | assumption | omega | (simp only [az]; done)) only [ru, eq_self, if_true, if_false, BEq.rfl, binI, AO.row?, splice, fillL, mmAll, loadV, storeV, zeros, Am.rowAt, Am.part, addOff, Nat.reduceAdd, Nat.reduceMul, Nat.reduceLeDiff, Nat.reduceSub, Nat.reduceLT, Int.reduceEq, Int.reduceLT, Int.reduceLE, Int.reduceGT, Int.reduceGE, Int.reduceAdd, Int.reduceSub, Int.reduceMul, Int.reduceNeg, Int.reduceToNat, reduceCtorEq, reduceIte, hlt, s19]
end
end Go.Proofs.Ytdmhbefdidmliaa.S

