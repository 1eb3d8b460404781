/-
The laws by which the program answers as the specification does.
-/
import Derived.Test.YtmmibahjjeldgaaNa
namespace Go.Proofs.Ytmmibahjjeldgaa.S
open Go Go.Am Go.Proofs.Ytmmibahjjeldgaa.T
set_option maxRecDepth 100000
set_option linter.unusedSimpArgs false
set_option linter.unusedVariables false

section
variable {n : Net} {g p : AV} {l : List Int} {v : AV}
theorem gooR_ex : ∃ q e, gooR n l = .tup [Bo q, I e] := by
  unfold gooR; split
  · exact ⟨_, _, rfl⟩
  · exact ⟨_, _, rfl⟩
theorem timR_ex (H : NetOk n g p) : ∃ T t e, T.length ≤ 1000 ∧ IsSl 1 intL T t ∧ timR n l = .tup [t, I e] := by
  have := H.sg
  have tl : (tms n l).length = n.hs.length := tms2_len.1
  unfold timR; split
  · exact ⟨tms n l, _, _, by omega, slV_is, rfl⟩
  · exact ⟨[], .nils, _, by simp, .inr ⟨rfl, rfl⟩, rfl⟩
theorem losR_ex : ∃ a b e, losR n l = .tup [.agg [I a, I b], I e] := by
  unfold losR; split
  · exact ⟨_, _, _, rfl⟩
  · exact ⟨_, _, _, rfl⟩
theorem leaR_ex : ∃ a e, leaR n = .tup [I a, I e] := by
  unfold leaR; split
  · exact ⟨_, _, rfl⟩
  · exact ⟨_, _, rfl⟩
theorem donR_ex : ∃ a e, donR n = .tup [I a, I e] := by
  unfold donR; split
  · exact ⟨_, _, rfl⟩
  · exact ⟨_, _, rfl⟩
theorem fisR_ex (i : Int) : ∃ a e, fisR n i = .tup [I a, I e] := by
  unfold fisR; split
  · split
    · exact ⟨_, _, rfl⟩
    · exact ⟨_, _, rfl⟩
  · exact ⟨_, _, rfl⟩
theorem ordR_ex : ∃ L e, L.length ≤ 1000 ∧ ordR n = .tup [resL L, I e] := by
  unfold ordR; split
  · rename_i hv
    obtain ⟨G, _, _, l, O⟩ := valid_ok hv
    exact ⟨fir n, _, Nat.le_trans (ord_len G (fir_ok O).1) (by omega), rfl⟩
  · exact ⟨[], _, by simp, rfl⟩
theorem rulR_ex : ∃ L e, L.length ≤ 1000 ∧ rulR n = .tup [resL L, I e] := by
  unfold rulR; split
  · rename_i hv
    obtain ⟨G, _, _, l, O⟩ := valid_ok hv
    exact ⟨rule n, _, Nat.le_trans (ord_len G (rule_isO G O)) (by omega), rfl⟩
  · exact ⟨[], _, by simp, rfl⟩
theorem calR_ex : ∃ L e, L.length ≤ 1000 ∧ calR n = .tup [resL L, I e] := by
  unfold calR; split
  · rename_i hv
    obtain ⟨G, _, _, l, O⟩ := valid_ok hv
    exact ⟨clm n, _, Nat.le_trans (ord_len G (clm_ok O).1) (by omega), rfl⟩
  · exact ⟨[], _, by simp, rfl⟩
theorem oveR_ex : ∃ a e, oveR n = .tup [I a, I e] := by
  unfold oveR; split
  · exact ⟨_, _, rfl⟩
  · exact ⟨_, _, rfl⟩
theorem rgtR_ex : ∃ a e, rgtR n l = .tup [I a, I e] := by
  unfold rgtR; split
  · exact ⟨_, _, rfl⟩
  · exact ⟨_, _, rfl⟩
set_option maxHeartbeats 4000000 in
theorem s3 (H0 : NetIn n g p) (V : IsSl 1 intL l v) (st : Bool) : Iso E 3 [netV n g p, v] st = some (Bo true) := by
  have g0 := fun st => s14 H0 V st
  refine Iso_of (es _ _ _ _) e3 ?_
  simp only [f3, netV] at g0 ⊢
  cases hf : huge n l
  case true => simp (disch := first | assumption | omega | (simp only [az]; done)) only [ru, eq_self, if_true, if_false, BEq.rfl, binI, AO.row?, splice, fillL, mmAll, loadV, storeV, zeros, Am.rowAt, Am.part, addOff, Nat.reduceAdd, Nat.reduceMul, Nat.reduceLeDiff, Nat.reduceSub, Nat.reduceLT, Int.reduceEq, Int.reduceLT, Int.reduceLE, Int.reduceGT, Int.reduceGE, Int.reduceAdd, Int.reduceSub, Int.reduceMul, Int.reduceNeg, Int.reduceToNat, reduceCtorEq, reduceIte, lenV_sl H0.g, view_sl H0.g, scalar_sl H0.g, cells_sl H0.g, pure_sl H0.g, lenV_sl H0.p, view_sl H0.p, scalar_sl H0.p, cells_sl H0.p, pure_sl H0.p, lenV_sl V, view_sl V, scalar_sl V, cells_sl V, pure_sl V, g0, hf, s15]
  obtain ⟨H, hl⟩ := huge_no H0 hf
  have c16 := fun st => s16 H st
  have c17 := fun st => s17' V (by omega) st
  obtain ⟨g', hg'⟩ : ∃ q, q = slV 4 Hl.e n.hs := ⟨_, rfl⟩
  obtain ⟨p', hp'⟩ : ∃ q, q = slV 2 Pr.e n.ps := ⟨_, rfl⟩
  have H2 := cp_ok H
  rw [← hg', ← hp'] at H2
  have W := slV_is (esz := 1) (enc := intL) (l := l)
  obtain ⟨w, hw⟩ : ∃ q, q = slV 1 intL l := ⟨_, rfl⟩
  rw [← hw] at W
  have a1 := fun st => s18 H2 st
  have a2 := fun st => s19 H st
  have a3 := fun st => s20 H2 W (by omega) st
  have a4 := fun st => s21 H V (by omega) st
  have a5 := s22 H2 W (by omega)
  have a6 := s23 H V (by omega)
  have a7 := fun st => s24 H2 W (by omega) st
  have a8 := fun st => s25 H V (by omega) st
  have a9 := fun st => s27 H2 H st
  have b1 := fun st => s26 W V (by omega) st
  obtain ⟨q1, x1, r1⟩ := gooR_ex (n := n) (l := l)
  obtain ⟨T, t, x2, lT, TV, r2⟩ := timR_ex (l := l) H
  obtain ⟨y1, y2, x3, r3⟩ := losR_ex (n := n) (l := l)
  have b2 := fun st => s26 TV TV (by omega) st
  obtain ⟨ve, hve⟩ : ∃ ve, ve = chk n.valid := ⟨_, rfl⟩
  simp only [cpN, ← hg', ← hp', ← hw, netV, r1, r2, r3, ← hve] at c16 c17 a1 a2 a3 a4 a5 a6 a7 a8 a9
  simp (disch := first | assumption | omega | (simp only [az]; done)) only [ru, eq_self, if_true, if_false, BEq.rfl, binI, AO.row?, splice, fillL, mmAll, loadV, storeV, zeros, Am.rowAt, Am.part, addOff, Nat.reduceAdd, Nat.reduceMul, Nat.reduceLeDiff, Nat.reduceSub, Nat.reduceLT, Int.reduceEq, Int.reduceLT, Int.reduceLE, Int.reduceGT, Int.reduceGE, Int.reduceAdd, Int.reduceSub, Int.reduceMul, Int.reduceNeg, Int.reduceToNat, reduceCtorEq, reduceIte, lenV_sl H.g, view_sl H.g, scalar_sl H.g, cells_sl H.g, pure_sl H.g, lenV_sl H.p, view_sl H.p, scalar_sl H.p, cells_sl H.p, pure_sl H.p, lenV_sl H2.g, view_sl H2.g, scalar_sl H2.g, cells_sl H2.g, pure_sl H2.g, lenV_sl H2.p, view_sl H2.p, scalar_sl H2.p, cells_sl H2.p, pure_sl H2.p, lenV_sl V, view_sl V, scalar_sl V, cells_sl V, pure_sl V, lenV_sl W, view_sl W, scalar_sl W, cells_sl W, pure_sl W, lenV_sl TV, view_sl TV, scalar_sl TV, cells_sl TV, pure_sl TV, g0, hf, c16, c17, a1, a2, a3, a4, a5, a6, a7, a8, decide_true, decide_false, bne_self_eq_false]
  simp (disch := first | assumption | omega | (simp only [az]; done)) only [ru, eq_self, if_true, if_false, BEq.rfl, binI, AO.row?, splice, fillL, mmAll, loadV, storeV, zeros, Am.rowAt, Am.part, addOff, Nat.reduceAdd, Nat.reduceMul, Nat.reduceLeDiff, Nat.reduceSub, Nat.reduceLT, Int.reduceEq, Int.reduceLT, Int.reduceLE, Int.reduceGT, Int.reduceGE, Int.reduceAdd, Int.reduceSub, Int.reduceMul, Int.reduceNeg, Int.reduceToNat, reduceCtorEq, reduceIte, lenV_sl H.g, view_sl H.g, scalar_sl H.g, cells_sl H.g, pure_sl H.g, lenV_sl H.p, view_sl H.p, scalar_sl H.p, cells_sl H.p, pure_sl H.p, lenV_sl H2.g, view_sl H2.g, scalar_sl H2.g, cells_sl H2.g, pure_sl H2.g, lenV_sl H2.p, view_sl H2.p, scalar_sl H2.p, cells_sl H2.p, pure_sl H2.p, lenV_sl V, view_sl V, scalar_sl V, cells_sl V, pure_sl V, lenV_sl W, view_sl W, scalar_sl W, cells_sl W, pure_sl W, lenV_sl TV, view_sl TV, scalar_sl TV, cells_sl TV, pure_sl TV, a9, b1, b2, decide_true, beq_self_eq_true, s15]
set_option maxHeartbeats 4000000 in
theorem s4 (H0 : NetIn n g p) (i : Int) (st : Bool) : Iso E 4 [netV n g p, I i] st = some (Bo true) := by
  have g0 := fun st => s28 H0 5 st
  refine Iso_of (es _ _ _ _) e4 ?_
  simp only [f4, netV] at g0 ⊢
  cases hf : farB n 5
  case true => simp (disch := first | assumption | omega | (simp only [az]; done)) only [ru, eq_self, if_true, if_false, BEq.rfl, binI, AO.row?, splice, fillL, mmAll, loadV, storeV, zeros, Am.rowAt, Am.part, addOff, Nat.reduceAdd, Nat.reduceMul, Nat.reduceLeDiff, Nat.reduceSub, Nat.reduceLT, Int.reduceEq, Int.reduceLT, Int.reduceLE, Int.reduceGT, Int.reduceGE, Int.reduceAdd, Int.reduceSub, Int.reduceMul, Int.reduceNeg, Int.reduceToNat, reduceCtorEq, reduceIte, lenV_sl H0.g, view_sl H0.g, scalar_sl H0.g, cells_sl H0.g, pure_sl H0.g, lenV_sl H0.p, view_sl H0.p, scalar_sl H0.p, cells_sl H0.p, pure_sl H0.p, g0, hf, s15]
  have H := far_no H0 hf
  have c16 := fun st => s16 H st
  obtain ⟨g', hg'⟩ : ∃ q, q = slV 4 Hl.e n.hs := ⟨_, rfl⟩
  obtain ⟨p', hp'⟩ : ∃ q, q = slV 2 Pr.e n.ps := ⟨_, rfl⟩
  have H2 := cp_ok H
  rw [← hg', ← hp'] at H2
  have a1 := fun st => s29 H2 st
  have a2 := fun st => s30 H st
  have a3 := s31 H2
  have a4 := s32 H
  have a5 := fun st => s33 H2 i st
  have a6 := fun st => s34 H i st
  have a7 := fun st => s35 H2 st
  have a8 := fun st => s36 H st
  have a9 := fun st => s27 H2 H st
  obtain ⟨y1, x1, r1⟩ := leaR_ex (n := n)
  obtain ⟨L, x2, lL, r2⟩ := ordR_ex (n := n)
  obtain ⟨y3, x3, r3⟩ := fisR_ex (n := n) i
  obtain ⟨y4, x4, r4⟩ := donR_ex (n := n)
  have LV := resL_is L
  obtain ⟨lv, hlv⟩ : ∃ q, q = resL L := ⟨_, rfl⟩
  rw [← hlv] at LV
  have b2 := fun st => s26 LV LV (by omega) st
  simp only [cpN, ← hg', ← hp', netV, r1, r2, r3, r4, ← hlv] at c16 a1 a2 a3 a4 a5 a6 a7 a8 a9
  simp (disch := first | assumption | omega | (simp only [az]; done)) only [ru, eq_self, if_true, if_false, BEq.rfl, binI, AO.row?, splice, fillL, mmAll, loadV, storeV, zeros, Am.rowAt, Am.part, addOff, Nat.reduceAdd, Nat.reduceMul, Nat.reduceLeDiff, Nat.reduceSub, Nat.reduceLT, Int.reduceEq, Int.reduceLT, Int.reduceLE, Int.reduceGT, Int.reduceGE, Int.reduceAdd, Int.reduceSub, Int.reduceMul, Int.reduceNeg, Int.reduceToNat, reduceCtorEq, reduceIte, lenV_sl H.g, view_sl H.g, scalar_sl H.g, cells_sl H.g, pure_sl H.g, lenV_sl H.p, view_sl H.p, scalar_sl H.p, cells_sl H.p, pure_sl H.p, lenV_sl H2.g, view_sl H2.g, scalar_sl H2.g, cells_sl H2.g, pure_sl H2.g, lenV_sl H2.p, view_sl H2.p, scalar_sl H2.p, cells_sl H2.p, pure_sl H2.p, lenV_sl LV, view_sl LV, scalar_sl LV, cells_sl LV, pure_sl LV, g0, hf, c16, a1, a2, a3, a4, b2, gUn, decide_true, decide_false, Bool.not_true, bne_self_eq_false]
  simp (disch := first | assumption | omega | (simp only [az]; done)) only [ru, eq_self, if_true, if_false, BEq.rfl, binI, AO.row?, splice, fillL, mmAll, loadV, storeV, zeros, Am.rowAt, Am.part, addOff, Nat.reduceAdd, Nat.reduceMul, Nat.reduceLeDiff, Nat.reduceSub, Nat.reduceLT, Int.reduceEq, Int.reduceLT, Int.reduceLE, Int.reduceGT, Int.reduceGE, Int.reduceAdd, Int.reduceSub, Int.reduceMul, Int.reduceNeg, Int.reduceToNat, reduceCtorEq, reduceIte, lenV_sl H.g, view_sl H.g, scalar_sl H.g, cells_sl H.g, pure_sl H.g, lenV_sl H.p, view_sl H.p, scalar_sl H.p, cells_sl H.p, pure_sl H.p, lenV_sl H2.g, view_sl H2.g, scalar_sl H2.g, cells_sl H2.g, pure_sl H2.g, lenV_sl H2.p, view_sl H2.p, scalar_sl H2.p, cells_sl H2.p, pure_sl H2.p, lenV_sl LV, view_sl LV, scalar_sl LV, cells_sl LV, pure_sl LV, a5, a6, a7, a8, a9, gUn, decide_true, beq_self_eq_true, s15]
set_option maxHeartbeats 4000000 in
theorem s5 (H0 : NetIn n g p) (st : Bool) : Iso E 5 [netV n g p] st = some (Bo true) := by
  have g0 := fun st => s28 H0 5 st
  refine Iso_of (es _ _ _ _) e5 ?_
  simp only [f5, netV] at g0 ⊢
  cases hf : farB n 5
  case true => simp (disch := first | assumption | omega | (simp only [az]; done)) only [ru, eq_self, if_true, if_false, BEq.rfl, binI, AO.row?, splice, fillL, mmAll, loadV, storeV, zeros, Am.rowAt, Am.part, addOff, Nat.reduceAdd, Nat.reduceMul, Nat.reduceLeDiff, Nat.reduceSub, Nat.reduceLT, Int.reduceEq, Int.reduceLT, Int.reduceLE, Int.reduceGT, Int.reduceGE, Int.reduceAdd, Int.reduceSub, Int.reduceMul, Int.reduceNeg, Int.reduceToNat, reduceCtorEq, reduceIte, lenV_sl H0.g, view_sl H0.g, scalar_sl H0.g, cells_sl H0.g, pure_sl H0.g, lenV_sl H0.p, view_sl H0.p, scalar_sl H0.p, cells_sl H0.p, pure_sl H0.p, g0, hf, s15]
  have H := far_no H0 hf
  have c16 := fun st => s16 H st
  obtain ⟨g', hg'⟩ : ∃ q, q = slV 4 Hl.e n.hs := ⟨_, rfl⟩
  obtain ⟨p', hp'⟩ : ∃ q, q = slV 2 Pr.e n.ps := ⟨_, rfl⟩
  have H2 := cp_ok H
  rw [← hg', ← hp'] at H2
  have a1 := s37 H2
  have a2 := s38 H false
  have a3 := fun st => s39 H2 st
  have a4 := fun st => s40 H st
  have a9 := fun st => s27 H2 H st
  obtain ⟨L, x2, lL, r2⟩ := rulR_ex (n := n)
  obtain ⟨y4, x4, r4⟩ := oveR_ex (n := n)
  have LV := resL_is L
  obtain ⟨lv, hlv⟩ : ∃ q, q = resL L := ⟨_, rfl⟩
  rw [← hlv] at LV
  have b2 := fun st => s26 LV LV (by omega) st
  simp only [cpN, ← hg', ← hp', netV, r2, r4, ← hlv] at c16 a1 a2 a3 a4 a9
  simp (disch := first | assumption | omega | (simp only [az]; done)) only [ru, eq_self, if_true, if_false, BEq.rfl, binI, AO.row?, splice, fillL, mmAll, loadV, storeV, zeros, Am.rowAt, Am.part, addOff, Nat.reduceAdd, Nat.reduceMul, Nat.reduceLeDiff, Nat.reduceSub, Nat.reduceLT, Int.reduceEq, Int.reduceLT, Int.reduceLE, Int.reduceGT, Int.reduceGE, Int.reduceAdd, Int.reduceSub, Int.reduceMul, Int.reduceNeg, Int.reduceToNat, reduceCtorEq, reduceIte, lenV_sl H.g, view_sl H.g, scalar_sl H.g, cells_sl H.g, pure_sl H.g, lenV_sl H.p, view_sl H.p, scalar_sl H.p, cells_sl H.p, pure_sl H.p, lenV_sl H2.g, view_sl H2.g, scalar_sl H2.g, cells_sl H2.g, pure_sl H2.g, lenV_sl H2.p, view_sl H2.p, scalar_sl H2.p, cells_sl H2.p, pure_sl H2.p, lenV_sl LV, view_sl LV, scalar_sl LV, cells_sl LV, pure_sl LV, g0, hf, c16, a1, a2, a3, a4, a9, b2, gUn, decide_true, decide_false, Bool.not_true, bne_self_eq_false, beq_self_eq_true, s15]
set_option maxHeartbeats 4000000 in
theorem s6 (H0 : NetIn n g p) (V : IsSl 1 intL l v) (st : Bool) : Iso E 6 [netV n g p, v] st = some (Bo true) := by
  have g0 := fun st => s28 H0 4 st
  refine Iso_of (es _ _ _ _) e6 ?_
  simp only [f6, netV] at g0 ⊢
  cases hf : farB n 4
  case true => simp (disch := first | assumption | omega | (simp only [az]; done)) only [ru, eq_self, if_true, if_false, BEq.rfl, binI, AO.row?, splice, fillL, mmAll, loadV, storeV, zeros, Am.rowAt, Am.part, addOff, Nat.reduceAdd, Nat.reduceMul, Nat.reduceLeDiff, Nat.reduceSub, Nat.reduceLT, Int.reduceEq, Int.reduceLT, Int.reduceLE, Int.reduceGT, Int.reduceGE, Int.reduceAdd, Int.reduceSub, Int.reduceMul, Int.reduceNeg, Int.reduceToNat, reduceCtorEq, reduceIte, lenV_sl H0.g, view_sl H0.g, scalar_sl H0.g, cells_sl H0.g, pure_sl H0.g, lenV_sl H0.p, view_sl H0.p, scalar_sl H0.p, cells_sl H0.p, pure_sl H0.p, lenV_sl V, view_sl V, scalar_sl V, cells_sl V, pure_sl V, g0, hf, gUn, s15]
  by_cases hl0 : (l.length : Int) > 40
  · simp (disch := first | assumption | omega | (simp only [az]; done)) only [ru, eq_self, if_true, if_false, BEq.rfl, binI, AO.row?, splice, fillL, mmAll, loadV, storeV, zeros, Am.rowAt, Am.part, addOff, Nat.reduceAdd, Nat.reduceMul, Nat.reduceLeDiff, Nat.reduceSub, Nat.reduceLT, Int.reduceEq, Int.reduceLT, Int.reduceLE, Int.reduceGT, Int.reduceGE, Int.reduceAdd, Int.reduceSub, Int.reduceMul, Int.reduceNeg, Int.reduceToNat, reduceCtorEq, reduceIte, lenV_sl H0.g, view_sl H0.g, scalar_sl H0.g, cells_sl H0.g, pure_sl H0.g, lenV_sl H0.p, view_sl H0.p, scalar_sl H0.p, cells_sl H0.p, pure_sl H0.p, lenV_sl V, view_sl V, scalar_sl V, cells_sl V, pure_sl V, g0, hf, hl0, gUn, decide_true, s15]
  have H := far_no H0 hf
  have c16 := fun st => s16 H st
  have c17 := fun st => s17' V (by omega) st
  obtain ⟨g', hg'⟩ : ∃ q, q = slV 4 Hl.e n.hs := ⟨_, rfl⟩
  obtain ⟨p', hp'⟩ : ∃ q, q = slV 2 Pr.e n.ps := ⟨_, rfl⟩
  have H2 := cp_ok H
  rw [← hg', ← hp'] at H2
  have W := slV_is (esz := 1) (enc := intL) (l := l)
  obtain ⟨w, hw⟩ : ∃ q, q = slV 1 intL l := ⟨_, rfl⟩
  rw [← hw] at W
  have a1 := fun st => s41 H2 W (by omega) st
  have a2 := fun st => s42 H V (by omega) st
  have a3 := s43 H2
  have a4 := s44 H
  have a9 := fun st => s27 H2 H st
  have b1 := fun st => s26 W V (by omega) st
  obtain ⟨y1, x1, r1⟩ := rgtR_ex (n := n) (l := l)
  obtain ⟨L, x2, lL, r2⟩ := calR_ex (n := n)
  have LV := resL_is L
  obtain ⟨lv, hlv⟩ : ∃ q, q = resL L := ⟨_, rfl⟩
  rw [← hlv] at LV
  have b2 := fun st => s26 LV LV (by omega) st
  simp only [cpN, ← hg', ← hp', ← hw, netV, r1, r2, ← hlv] at c16 c17 a1 a2 a3 a4 a9
  simp (disch := first | assumption | omega | (simp only [az]; done)) only [ru, eq_self, if_true, if_false, BEq.rfl, binI, AO.row?, splice, fillL, mmAll, loadV, storeV, zeros, Am.rowAt, Am.part, addOff, Nat.reduceAdd, Nat.reduceMul, Nat.reduceLeDiff, Nat.reduceSub, Nat.reduceLT, Int.reduceEq, Int.reduceLT, Int.reduceLE, Int.reduceGT, Int.reduceGE, Int.reduceAdd, Int.reduceSub, Int.reduceMul, Int.reduceNeg, Int.reduceToNat, reduceCtorEq, reduceIte, lenV_sl H.g, view_sl H.g, scalar_sl H.g, cells_sl H.g, pure_sl H.g, lenV_sl H.p, view_sl H.p, scalar_sl H.p, cells_sl H.p, pure_sl H.p, lenV_sl H2.g, view_sl H2.g, scalar_sl H2.g, cells_sl H2.g, pure_sl H2.g, lenV_sl H2.p, view_sl H2.p, scalar_sl H2.p, cells_sl H2.p, pure_sl H2.p, lenV_sl V, view_sl V, scalar_sl V, cells_sl V, pure_sl V, lenV_sl W, view_sl W, scalar_sl W, cells_sl W, pure_sl W, lenV_sl LV, view_sl LV, scalar_sl LV, cells_sl LV, pure_sl LV, g0, hf, hl0, c16, c17, a1, a2, a3, a4, gUn, decide_true, decide_false, bne_self_eq_false]
  simp (disch := first | assumption | omega | (simp only [az]; done)) only [ru, eq_self, if_true, if_false, BEq.rfl, binI, AO.row?, splice, fillL, mmAll, loadV, storeV, zeros, Am.rowAt, Am.part, addOff, Nat.reduceAdd, Nat.reduceMul, Nat.reduceLeDiff, Nat.reduceSub, Nat.reduceLT, Int.reduceEq, Int.reduceLT, Int.reduceLE, Int.reduceGT, Int.reduceGE, Int.reduceAdd, Int.reduceSub, Int.reduceMul, Int.reduceNeg, Int.reduceToNat, reduceCtorEq, reduceIte, lenV_sl H.g, view_sl H.g, scalar_sl H.g, cells_sl H.g, pure_sl H.g, lenV_sl H.p, view_sl H.p, scalar_sl H.p, cells_sl H.p, pure_sl H.p, lenV_sl H2.g, view_sl H2.g, scalar_sl H2.g, cells_sl H2.g, pure_sl H2.g, lenV_sl H2.p, view_sl H2.p, scalar_sl H2.p, cells_sl H2.p, pure_sl H2.p, lenV_sl V, view_sl V, scalar_sl V, cells_sl V, pure_sl V, lenV_sl W, view_sl W, scalar_sl W, cells_sl W, pure_sl W, lenV_sl LV, view_sl LV, scalar_sl LV, cells_sl LV, pure_sl LV, a9, b1, b2, gUn, decide_true, beq_self_eq_true, s15]
end
end Go.Proofs.Ytmmibahjjeldgaa.S

