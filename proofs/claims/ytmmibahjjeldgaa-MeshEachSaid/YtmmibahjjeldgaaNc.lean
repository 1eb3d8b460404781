/-
The laws of each order, and of regret.
-/
import Derived.Test.YtmmibahjjeldgaaNa
namespace Go.Proofs.Ytmmibahjjeldgaa.S
open Go Go.Am Go.Proofs.Ytmmibahjjeldgaa.T
set_option maxRecDepth 100000
set_option linter.unusedSimpArgs false
set_option linter.unusedVariables false

section
variable {n : Net} {g p : AV} {l : List Int} {v : AV}
set_option maxHeartbeats 8000000 in
theorem s8 (H0 : NetIn n g p) (V : IsSl 1 intL l v) (st : Bool) : Iso E 8 [netV n g p, v] st = some (Bo true) := by
  have g0 := fun st => s49' H0 5 st
  refine Iso_of (es _ _ _ _) e8 ?_
  simp only [f8, netV] at g0 ⊢
  cases hr : rdyB n 5
  case false => simp (disch := first | assumption | omega | (simp only [az]; done)) only [ru, eq_self, if_true, if_false, BEq.rfl, binI, AO.row?, splice, fillL, mmAll, loadV, storeV, zeros, Am.rowAt, Am.part, addOff, Nat.reduceAdd, Nat.reduceMul, Nat.reduceLeDiff, Nat.reduceSub, Nat.reduceLT, Int.reduceEq, Int.reduceLT, Int.reduceLE, Int.reduceGT, Int.reduceGE, Int.reduceAdd, Int.reduceSub, Int.reduceMul, Int.reduceNeg, Int.reduceToNat, reduceCtorEq, reduceIte, lenV_sl H0.g, view_sl H0.g, scalar_sl H0.g, cells_sl H0.g, pure_sl H0.g, lenV_sl H0.p, view_sl H0.p, scalar_sl H0.p, cells_sl H0.p, pure_sl H0.p, lenV_sl V, view_sl V, scalar_sl V, cells_sl V, pure_sl V, g0, hr, gUn, Bool.not_false, s15]
  obtain ⟨H, hv⟩ := rdy_ok H0 hr
  by_cases hl0 : (l.length : Int) > 40
  · simp (disch := first | assumption | omega | (simp only [az]; done)) only [ru, eq_self, if_true, if_false, BEq.rfl, binI, AO.row?, splice, fillL, mmAll, loadV, storeV, zeros, Am.rowAt, Am.part, addOff, Nat.reduceAdd, Nat.reduceMul, Nat.reduceLeDiff, Nat.reduceSub, Nat.reduceLT, Int.reduceEq, Int.reduceLT, Int.reduceLE, Int.reduceGT, Int.reduceGE, Int.reduceAdd, Int.reduceSub, Int.reduceMul, Int.reduceNeg, Int.reduceToNat, reduceCtorEq, reduceIte, lenV_sl H0.g, view_sl H0.g, scalar_sl H0.g, cells_sl H0.g, pure_sl H0.g, lenV_sl H0.p, view_sl H0.p, scalar_sl H0.p, cells_sl H0.p, pure_sl H0.p, lenV_sl V, view_sl V, scalar_sl V, cells_sl V, pure_sl V, g0, hr, hl0, gUn, decide_true, Bool.not_true, s15]
  have c50 := fun st => s50 H V (by omega) st
  simp only [netV] at c50
  cases ho : ordB n l
  case false => simp (disch := first | assumption | omega | (simp only [az]; done)) only [ru, eq_self, if_true, if_false, BEq.rfl, binI, AO.row?, splice, fillL, mmAll, loadV, storeV, zeros, Am.rowAt, Am.part, addOff, Nat.reduceAdd, Nat.reduceMul, Nat.reduceLeDiff, Nat.reduceSub, Nat.reduceLT, Int.reduceEq, Int.reduceLT, Int.reduceLE, Int.reduceGT, Int.reduceGE, Int.reduceAdd, Int.reduceSub, Int.reduceMul, Int.reduceNeg, Int.reduceToNat, reduceCtorEq, reduceIte, lenV_sl H0.g, view_sl H0.g, scalar_sl H0.g, cells_sl H0.g, pure_sl H0.g, lenV_sl H0.p, view_sl H0.p, scalar_sl H0.p, cells_sl H0.p, pure_sl H0.p, lenV_sl V, view_sl V, scalar_sl V, cells_sl V, pure_sl V, g0, hr, hl0, c50, ho, gUn, decide_false, Bool.not_true, Bool.not_false, s15]
  have O := ordB_iff.1 ho
  obtain ⟨G, _⟩ := valid_ok hv
  have l6 := ord_len G O
  have k6 := G.h.le
  have FO := fir_ok O
  have RO := rule_isO G O
  have FV := resL_is (fir n)
  have RV := resL_is (rule n)
  have W := slV_is (esz := 1) (enc := intL) (l := l)
  have c17 := fun st => s17' V (by omega) st
  have c51 := fun st => s51 H hv st
  have c31 := s31 H
  have c37 := s37 H
  have c39 := fun st => s39 H st
  have c22 := s22 H W (by omega)
  have i1 := fun st => s50 H FV (Nat.le_trans (ord_len G FO.1) (by omega)) st
  have i2 := fun st => s50 H RV (Nat.le_trans (ord_len G RO) (by omega)) st
  rw [ordB_iff.2 FO.1] at i1
  rw [ordB_iff.2 RO] at i2
  have w1 := fun st => s52 H G FV (ord_len G FO.1) (fun j hj => ⟨(FO.1.2 j hj).1, (FO.1.2 j hj).2.1⟩) st
  have w2 := fun st => s52 H G RV (ord_len G RO) (fun j hj => ⟨(RO.2 j hj).1, (RO.2 j hj).2.1⟩) st
  have w3 := fun st => s52 H G V l6 (fun j hj => ⟨(O.2 j hj).1, (O.2 j hj).2.1⟩) st
  have w4 := fun st => s53 H G V l6 (fun j hj => ⟨(O.2 j hj).1, (O.2 j hj).2.1⟩) st
  rw [FO.2] at w1
  have b1 := lea_bd G O
  have b2 := worst_bd G RO
  have b3 := lea_le RO
  have b4 := lea_le O
  have b5 := don_le O
  have b6 := don_bd G O
  have tl : (tms n l).length = n.hs.length := tms2_len.1
  have tg := fun i (hi : i < n.hs.length) => tms_ge O.2 (i : Int) ((ord_perm O).mem_iff.2 (mem_rng.2 ⟨by omega, by omega⟩))
  have td : ∀ j, 0 ≤ (tms n l).getD j 0 ∧ (tms n l).getD j 0 ≤ 74 := fun j => by
    have := (tms_le G.h (l := l)).1 j; show 0 ≤ (tms2 n l).1.getD j 0 ∧ (tms2 n l).1.getD j 0 ≤ 74; omega
  have TV := slV_is (esz := 1) (enc := intL) (l := tms n l)
  simp only [Int.toNat_natCast] at tg
  simp only [netV, ordR, rulR, oveR, timR, hv, ho, Bool.and_self, if_true] at c31 c37 c39 c22 c51 i1 i2 w1 w2 w3 w4
  obtain ⟨Z, hZ⟩ : ∃ Z, Z = lea n := ⟨_, rfl⟩
  obtain ⟨D, hD⟩ : ∃ D, D = don n := ⟨_, rfl⟩
  obtain ⟨R, hR⟩ : ∃ D, D = worst n (rule n) := ⟨_, rfl⟩
  obtain ⟨X, hX⟩ : ∃ D, D = worst n l := ⟨_, rfl⟩
  obtain ⟨Y, hY⟩ : ∃ D, D = dne n l := ⟨_, rfl⟩
  obtain ⟨fv, hfv⟩ : ∃ q, q = resL (fir n) := ⟨_, rfl⟩
  obtain ⟨rv, hrv⟩ : ∃ q, q = resL (rule n) := ⟨_, rfl⟩
  obtain ⟨wv, hwv⟩ : ∃ q, q = slV 1 intL l := ⟨_, rfl⟩
  obtain ⟨tv, htv⟩ : ∃ q, q = slV 1 intL (tms n l) := ⟨_, rfl⟩
  obtain ⟨t, ht⟩ : ∃ q, q = tms n l := ⟨_, rfl⟩
  rw [← hZ] at b1 b3 b4
  rw [← hD] at b5 b6
  rw [← hR] at b2 b3
  rw [← hX] at b4
  rw [← hY] at b5
  rw [← hfv] at FV
  rw [← hrv] at RV
  rw [← hwv] at W
  rw [← htv, ← ht] at TV
  rw [← ht] at tl
  simp only [← ht] at tg td
  simp only [← hZ, ← hD, ← hR, ← hX, ← hY, ← hfv, ← hrv, ← hwv, ← htv] at c17 c51 c31 c37 c39 c22 i1 i2 w1 w2 w3 w4
  have q1 : ¬ (R - Z) < 0 := by omega
  have q2 : ¬ (R - Z) > 100000 := by omega
  have q3 : (R != Z + (R - Z)) = false := by rw [show Z + (R - Z) = R by omega]; exact bne_self_eq_false R
  have q4 : ¬ X < Z := by omega
  have q5 : ¬ Y < D := by omega
  have et := elem_in TV
  have eh := elem_hl H.g
  simp (disch := first | assumption | omega | (simp only [az]; done)) only [ru, eq_self, if_true, if_false, BEq.rfl, binI, AO.row?, splice, fillL, mmAll, loadV, storeV, zeros, Am.rowAt, Am.part, addOff, Nat.reduceAdd, Nat.reduceMul, Nat.reduceLeDiff, Nat.reduceSub, Nat.reduceLT, Int.reduceEq, Int.reduceLT, Int.reduceLE, Int.reduceGT, Int.reduceGE, Int.reduceAdd, Int.reduceSub, Int.reduceMul, Int.reduceNeg, Int.reduceToNat, reduceCtorEq, reduceIte, lenV_sl H.g, view_sl H.g, scalar_sl H.g, cells_sl H.g, pure_sl H.g, lenV_sl H.p, view_sl H.p, scalar_sl H.p, cells_sl H.p, pure_sl H.p, lenV_sl V, view_sl V, scalar_sl V, cells_sl V, pure_sl V, lenV_sl W, view_sl W, scalar_sl W, cells_sl W, pure_sl W, lenV_sl FV, view_sl FV, scalar_sl FV, cells_sl FV, pure_sl FV, lenV_sl RV, view_sl RV, scalar_sl RV, cells_sl RV, pure_sl RV, lenV_sl TV, view_sl TV, scalar_sl TV, cells_sl TV, pure_sl TV, g0, hr, hl0, c50, ho, c51, c31, c37, c39, c17, c22, gUn, decide_false, Bool.not_true, bne_self_eq_false]
  simp (disch := first | assumption | omega | (simp only [az]; done)) only [ru, eq_self, if_true, if_false, BEq.rfl, binI, AO.row?, splice, fillL, mmAll, loadV, storeV, zeros, Am.rowAt, Am.part, addOff, Nat.reduceAdd, Nat.reduceMul, Nat.reduceLeDiff, Nat.reduceSub, Nat.reduceLT, Int.reduceEq, Int.reduceLT, Int.reduceLE, Int.reduceGT, Int.reduceGE, Int.reduceAdd, Int.reduceSub, Int.reduceMul, Int.reduceNeg, Int.reduceToNat, reduceCtorEq, reduceIte, lenV_sl H.g, view_sl H.g, scalar_sl H.g, cells_sl H.g, pure_sl H.g, lenV_sl H.p, view_sl H.p, scalar_sl H.p, cells_sl H.p, pure_sl H.p, lenV_sl V, view_sl V, scalar_sl V, cells_sl V, pure_sl V, lenV_sl W, view_sl W, scalar_sl W, cells_sl W, pure_sl W, lenV_sl FV, view_sl FV, scalar_sl FV, cells_sl FV, pure_sl FV, lenV_sl RV, view_sl RV, scalar_sl RV, cells_sl RV, pure_sl RV, lenV_sl TV, view_sl TV, scalar_sl TV, cells_sl TV, pure_sl TV, i1, i2, w1, w2, w3, w4, q1, q2, q3, q4, q5, tl, gUn, decide_false, Bool.not_true, bne_self_eq_false]
  refine G_loop_ind (fun m ts h mk => ∃ i : Nat, i ≤ t.length ∧ m = t.length - i ∧ ts.length = 168 ∧ ts.getD 2 .undef = .ptr 0 0 ∧ ts.getD 14 .undef = tv ∧ ts.getD 16 .undef = I i ∧ h = [.cells [I n.m, g, p] false] ∧ mk = []) ?_ _ _ _ _ ⟨0, Nat.zero_le _, rfl, rfl, rfl, rfl, rfl, rfl, rfl⟩
  rintro m ts h mk ih ⟨i, hi, rfl, hl', q2, q14, q16, rfl, rfl⟩
  rw [lit_all hl']
  simp only [lit0, litS, Nat.reduceAdd, q2, q14, q16]
  simp (disch := first | assumption | omega | (simp only [az]; done)) only [ru, eq_self, if_true, if_false, BEq.rfl, binI, AO.row?, splice, fillL, mmAll, loadV, storeV, zeros, Am.rowAt, Am.part, addOff, Nat.reduceAdd, Nat.reduceMul, Nat.reduceLeDiff, Nat.reduceSub, Nat.reduceLT, Int.reduceEq, Int.reduceLT, Int.reduceLE, Int.reduceGT, Int.reduceGE, Int.reduceAdd, Int.reduceSub, Int.reduceMul, Int.reduceNeg, Int.reduceToNat, reduceCtorEq, reduceIte, lenV_sl TV, view_sl TV, scalar_sl TV, cells_sl TV, pure_sl TV]
  by_cases hlt : (i : Int) < t.length
  case neg => simp (disch := first | assumption | omega | (simp only [az]; done)) only [ru, eq_self, if_true, if_false, BEq.rfl, binI, AO.row?, splice, fillL, mmAll, loadV, storeV, zeros, Am.rowAt, Am.part, addOff, Nat.reduceAdd, Nat.reduceMul, Nat.reduceLeDiff, Nat.reduceSub, Nat.reduceLT, Int.reduceEq, Int.reduceLT, Int.reduceLE, Int.reduceGT, Int.reduceGE, Int.reduceAdd, Int.reduceSub, Int.reduceMul, Int.reduceNeg, Int.reduceToNat, reduceCtorEq, reduceIte, hlt, s15]
  have hlt' : (i : Int) < n.hs.length := by omega
  have a1 := tg i (by omega)
  have a2 := td i
  have a3 := G.h.at (i : Int)
  simp only [Int.toNat_natCast] at a3
  obtain ⟨x, hx⟩ : ∃ x, x = n.hs.getD i default := ⟨_, rfl⟩
  rw [← hx] at a1 a3
  obtain ⟨y, hy⟩ : ∃ y, y = t.getD i 0 := ⟨_, rfl⟩
  rw [← hy] at a1 a2
  have d1 : ¬ y > 100000 := by omega
  have d2 : ¬ y < x.f + x.h := by omega
  simp (disch := first | assumption | omega | (simp only [az]; done)) only [ru, eq_self, if_true, if_false, BEq.rfl, binI, AO.row?, splice, fillL, mmAll, loadV, storeV, zeros, Am.rowAt, Am.part, addOff, Nat.reduceAdd, Nat.reduceMul, Nat.reduceLeDiff, Nat.reduceSub, Nat.reduceLT, Int.reduceEq, Int.reduceLT, Int.reduceLE, Int.reduceGT, Int.reduceGE, Int.reduceAdd, Int.reduceSub, Int.reduceMul, Int.reduceNeg, Int.reduceToNat, reduceCtorEq, reduceIte, lenV_sl TV, view_sl TV, scalar_sl TV, cells_sl TV, pure_sl TV, lenV_sl H.g, view_sl H.g, scalar_sl H.g, cells_sl H.g, pure_sl H.g, et, eh, Int.toNat_natCast, hlt, hlt', ← hx, ← hy, d1, d2, gUn, decide_false]
  exact ih (t.length - (i + 1)) _ _ _ (by omega) ⟨i + 1, by omega, rfl, rfl, rfl, rfl, rfl, rfl, rfl⟩
end
end Go.Proofs.Ytmmibahjjeldgaa.S

