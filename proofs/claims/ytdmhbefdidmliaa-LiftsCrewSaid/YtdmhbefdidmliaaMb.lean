/-
The laws by which the program answers as the specification does.
-/
import Derived.Test.YtdmhbefdidmliaaS3
namespace Go.Proofs.Ytdmhbefdidmliaa.S
open Go Go.Am Go.Proofs.Ytdmhbefdidmliaa.T
set_option maxRecDepth 100000
set_option linter.unusedSimpArgs false
set_option linter.unusedVariables false

section
variable {s : Sea} {p b : AV} {l : List Int} {v : AV}
theorem shrR_ex (i : Int) : ∃ x y e, shrR s i = .tup [.agg [I x, I y], I e] := by
  unfold shrR; split
  · split
    · exact ⟨_, _, _, rfl⟩
    · exact ⟨_, _, _, rfl⟩
  · exact ⟨_, _, _, rfl⟩
theorem loaR_ex (i : Int) : ∃ x y e, loaR s i = .tup [.agg [I x, I y], I e] := by
  unfold loaR; split
  · split
    · exact ⟨_, _, _, rfl⟩
    · exact ⟨_, _, _, rfl⟩
  · exact ⟨_, _, _, rfl⟩
theorem neeR_ex (i : Int) : ∃ x e, neeR s i = .tup [I x, I e] := by
  unfold neeR; split
  · split
    · exact ⟨_, _, rfl⟩
    · exact ⟨_, _, rfl⟩
  · exact ⟨_, _, rfl⟩
theorem holR_ex (w : Int) : ∃ x e, holR s w l = .tup [Bo x, I e] := by
  unfold holR; split
  · exact ⟨_, _, rfl⟩
  · exact ⟨_, _, rfl⟩
theorem safR_ex : ∃ x e, safR s l = .tup [I x, I e] := by
  unfold safR; split
  · split
    · exact ⟨_, _, rfl⟩
    · exact ⟨_, _, rfl⟩
  · exact ⟨_, _, rfl⟩
theorem lifR_ex : ∃ x e, lifR s l = .tup [I x, I e] := by
  unfold lifR; split
  · split
    · exact ⟨_, _, rfl⟩
    · exact ⟨_, _, rfl⟩
  · exact ⟨_, _, rfl⟩
theorem firR_ex : ∃ x e, firR s l = .tup [I x, I e] := by
  unfold firR; split
  · split
    · split
      · exact ⟨_, _, rfl⟩
      · exact ⟨_, _, rfl⟩
    · exact ⟨_, _, rfl⟩
  · exact ⟨_, _, rfl⟩
theorem swpR_ex : ∃ x y e, swpR s l = .tup [.agg [I x, I y], I e] := by
  unfold swpR; split
  · split
    · split
      · exact ⟨_, _, _, rfl⟩
      · exact ⟨_, _, _, rfl⟩
    · exact ⟨_, _, _, rfl⟩
  · exact ⟨_, _, _, rfl⟩
theorem creR_ex (H : SeaOk s p b) : ∃ L e, L.length ≤ 1000 ∧ creR s = .tup [resL L, I e] := by
  unfold creR; split
  · rename_i hv
    have K := (valid_good hv).1
    split
    · exact ⟨[], 3, by simp, rfl⟩
    · rename_i l hl
      exact ⟨l, 0, by have := (crew_some hl).1.1; have := K.sp.le; omega, rfl⟩
  · exact ⟨[], 50, by simp, rfl⟩
theorem cheR_ex : ∃ x e, cheR s = .tup [I x, I e] := by
  unfold cheR; split
  · split
    · exact ⟨_, _, rfl⟩
    · exact ⟨_, _, rfl⟩
  · exact ⟨_, _, rfl⟩
theorem mosR_ex : ∃ x e, mosR s = .tup [I x, I e] := by
  unfold mosR; split
  · split
    · exact ⟨_, _, rfl⟩
    · exact ⟨_, _, rfl⟩
  · exact ⟨_, _, rfl⟩
theorem shoR_ex (H : SeaOk s p b) : ∃ L e, L.length ≤ 1000 ∧ shoR s = .tup [resL L, I e] := by
  unfold shoR; split
  · rename_i hv
    have K := (valid_good hv).1
    split
    · exact ⟨[], 3, by simp, rfl⟩
    · rename_i l hl
      obtain ⟨g, h1, h2, h3, rfl, _⟩ := shtU_some hl
      refine ⟨_, 0, ?_, rfl⟩
      rw [ofN_len, List.length_take]; have := K.sp.le; omega
  · exact ⟨[], 50, by simp, rfl⟩
theorem hlpR_ex (H : SeaOk s p b) : ∃ L e, L.length ≤ 1000 ∧ hlpR s = .tup [resL L, I e] := by
  unfold hlpR; split
  · split
    · exact ⟨hlpU s s.bo.length, 0, by have := hlpU_len (s := s) (k := s.bo.length); have := H.sb; omega, rfl⟩
    · exact ⟨[], 3, by simp, rfl⟩
  · exact ⟨[], 50, by simp, rfl⟩

set_option maxHeartbeats 4000000 in
theorem s12 (H0 : SeaIn s p b) (V : IsSl 1 intL l v) (x i : Int) (st : Bool) : Iso E 12 [seaV s p b, .agg [I x, I i], v] st = some (Bo true) := by
  have g0 := fun st => s50 H0 st
  refine Iso_of (es _ _ _ _) e12 ?_
  simp only [f12, seaV] at g0 ⊢
  cases hf : far s
  case true => simp (disch := first | assumption | omega | (simp only [az]; done)) only [ru, eq_self, if_true, if_false, BEq.rfl, binI, AO.row?, splice, fillL, mmAll, loadV, storeV, zeros, Am.rowAt, Am.part, addOff, Nat.reduceAdd, Nat.reduceMul, Nat.reduceLeDiff, Nat.reduceSub, Nat.reduceLT, Int.reduceEq, Int.reduceLT, Int.reduceLE, Int.reduceGT, Int.reduceGE, Int.reduceAdd, Int.reduceSub, Int.reduceMul, Int.reduceNeg, Int.reduceToNat, reduceCtorEq, reduceIte, lenV_sl H0.p, lenV_sl H0.b, elem_sp H0.p, elem_bt H0.b, view_sl H0.p, view_sl H0.b, scalar_sl H0.p, scalar_sl H0.b, cells_sl H0.p, cells_sl H0.b, pure_sl H0.p, pure_sl H0.b, Int.toNat_natCast, lenV_sl V, elem_in V, view_sl V, scalar_sl V, cells_sl V, pure_sl V, Int.toNat_natCast, g0, hf, gUn, s19]
  by_cases hl : (l.length : Int) > 40
  · simp (disch := first | assumption | omega | (simp only [az]; done)) only [ru, eq_self, if_true, if_false, BEq.rfl, binI, AO.row?, splice, fillL, mmAll, loadV, storeV, zeros, Am.rowAt, Am.part, addOff, Nat.reduceAdd, Nat.reduceMul, Nat.reduceLeDiff, Nat.reduceSub, Nat.reduceLT, Int.reduceEq, Int.reduceLT, Int.reduceLE, Int.reduceGT, Int.reduceGE, Int.reduceAdd, Int.reduceSub, Int.reduceMul, Int.reduceNeg, Int.reduceToNat, reduceCtorEq, reduceIte, lenV_sl H0.p, lenV_sl H0.b, elem_sp H0.p, elem_bt H0.b, view_sl H0.p, view_sl H0.b, scalar_sl H0.p, scalar_sl H0.b, cells_sl H0.p, cells_sl H0.b, pure_sl H0.p, pure_sl H0.b, Int.toNat_natCast, lenV_sl V, elem_in V, view_sl V, scalar_sl V, cells_sl V, pure_sl V, Int.toNat_natCast, g0, hf, hl, decide_true, s19]
  have H := far_no H0 hf
  obtain ⟨w, h', A, fr, RD⟩ := cpyV (eb := 8) (lim := 0) (h := [.cells [I s.w.lo, I s.w.hi, p, b] false, .cells [I x, I i] false]) V intE intSc (by omega) (by omega) (Nat.zero_le _)
  simp only [apC, apN, lenS, len0, Nat.zero_add, Nat.reduceAdd] at A
  have h0 : h'[0]? = some (.cells [I s.w.lo, I s.w.hi, p, b] false) := fr.at rfl
  have h1 : h'[1]? = some (.cells [I x, I i] false) := fr.at rfl
  have n1 := (List.getElem?_eq_some_iff.1 h1).1
  have n0 : 0 < h'.length := by omega
  have rv := fun K st => (RD.fr (Fr.app h' K)).view intE intIv (st := st) (k := 7)
  have c40 := fun st => s40 H st
  obtain ⟨p', hp'⟩ : ∃ p', p' = slV 2 Spn.e s.pl := ⟨_, rfl⟩
  obtain ⟨b', hb'⟩ : ∃ b', b' = slV 2 Bt.e s.bo := ⟨_, rfl⟩
  have H2 := cp_ok H
  rw [← hp', ← hb'] at H2
  have a1 := fun st => s21 H2 x (slV_is (l := l)) (by omega) st
  have a2 := fun st => s51 H x V (by omega) st
  have a3 := fun st => s52 H2 st
  have a4 := fun st => s53 H st
  have a5 := fun st => s54 (slV_is (l := l)) V (by omega) st
  have b1 := fun st => s22 H2 i st
  have b2 := fun st => s55 H i st
  have b3 := fun st => s23 H2 i st
  have b4 := fun st => s56 H i st
  have b5 := fun st => s57 H2 i st
  have b6 := fun st => s58 H i st
  have b7 := fun st => s59 H2 H st
  obtain ⟨q1, e1, r1⟩ := holR_ex (s := s) (l := l) x
  obtain ⟨q2, q3, e2, r2⟩ := shrR_ex (s := s) i
  obtain ⟨q4, q5, e3, r3⟩ := loaR_ex (s := s) i
  obtain ⟨q6, e4, r4⟩ := neeR_ex (s := s) i
  obtain ⟨ve, hve⟩ : ∃ ve, ve = vE s.valid := ⟨_, rfl⟩
  simp only [cpV, ← hp', ← hb', seaV, r1, r2, r3, r4, ← hve] at c40 a1 a2 a3 a4 b1 b2 b3 b4 b5 b6 b7
  simp (disch := first | assumption | omega | (simp only [az]; done)) only [ru, eq_self, if_true, if_false, BEq.rfl, binI, AO.row?, splice, fillL, mmAll, loadV, storeV, zeros, Am.rowAt, Am.part, addOff, Nat.reduceAdd, Nat.reduceMul, Nat.reduceLeDiff, Nat.reduceSub, Nat.reduceLT, Int.reduceEq, Int.reduceLT, Int.reduceLE, Int.reduceGT, Int.reduceGE, Int.reduceAdd, Int.reduceSub, Int.reduceMul, Int.reduceNeg, Int.reduceToNat, reduceCtorEq, reduceIte, lenV_sl H.p, lenV_sl H.b, elem_sp H.p, elem_bt H.b, view_sl H.p, view_sl H.b, scalar_sl H.p, scalar_sl H.b, cells_sl H.p, cells_sl H.b, pure_sl H.p, pure_sl H.b, Int.toNat_natCast, lenV_sl H2.p, lenV_sl H2.b, elem_sp H2.p, elem_bt H2.b, view_sl H2.p, view_sl H2.b, scalar_sl H2.p, scalar_sl H2.b, cells_sl H2.p, cells_sl H2.b, pure_sl H2.p, pure_sl H2.b, Int.toNat_natCast, lenV_sl V, elem_in V, view_sl V, scalar_sl V, cells_sl V, pure_sl V, Int.toNat_natCast, g0, hf, hl, decide_false, A, c40, List.append_assoc, lenE, setT, setT0, atT, atT0, Nat.add_assoc, at_ap, n0, n1, h0, h1, rv, a1, a2, a3, a4, a5, decide_true, Bool.not_true]
  simp (disch := first | assumption | omega | (simp only [az]; done)) only [ru, eq_self, if_true, if_false, BEq.rfl, binI, AO.row?, splice, fillL, mmAll, loadV, storeV, zeros, Am.rowAt, Am.part, addOff, Nat.reduceAdd, Nat.reduceMul, Nat.reduceLeDiff, Nat.reduceSub, Nat.reduceLT, Int.reduceEq, Int.reduceLT, Int.reduceLE, Int.reduceGT, Int.reduceGE, Int.reduceAdd, Int.reduceSub, Int.reduceMul, Int.reduceNeg, Int.reduceToNat, reduceCtorEq, reduceIte, lenV_sl H.p, lenV_sl H.b, elem_sp H.p, elem_bt H.b, view_sl H.p, view_sl H.b, scalar_sl H.p, scalar_sl H.b, cells_sl H.p, cells_sl H.b, pure_sl H.p, pure_sl H.b, Int.toNat_natCast, lenV_sl H2.p, lenV_sl H2.b, elem_sp H2.p, elem_bt H2.b, view_sl H2.p, view_sl H2.b, scalar_sl H2.p, scalar_sl H2.b, cells_sl H2.p, cells_sl H2.b, pure_sl H2.p, pure_sl H2.b, Int.toNat_natCast, lenV_sl V, elem_in V, view_sl V, scalar_sl V, cells_sl V, pure_sl V, Int.toNat_natCast, List.append_assoc, lenE, setT, setT0, atT, atT0, Nat.add_assoc, at_ap, n0, n1, h0, h1, rv, b1, b2, b3, b4, b5, b6, b7, decide_true, s19]

set_option maxHeartbeats 4000000 in
theorem s13 (H0 : SeaIn s p b) (V : IsSl 1 intL l v) (st : Bool) : Iso E 13 [seaV s p b, v] st = some (Bo true) := by
  have g0 := fun st => s50 H0 st
  refine Iso_of (es _ _ _ _) e13 ?_
  simp only [f13, seaV] at g0 ⊢
  cases hf : far s
  case true => simp (disch := first | assumption | omega | (simp only [az]; done)) only [ru, eq_self, if_true, if_false, BEq.rfl, binI, AO.row?, splice, fillL, mmAll, loadV, storeV, zeros, Am.rowAt, Am.part, addOff, Nat.reduceAdd, Nat.reduceMul, Nat.reduceLeDiff, Nat.reduceSub, Nat.reduceLT, Int.reduceEq, Int.reduceLT, Int.reduceLE, Int.reduceGT, Int.reduceGE, Int.reduceAdd, Int.reduceSub, Int.reduceMul, Int.reduceNeg, Int.reduceToNat, reduceCtorEq, reduceIte, lenV_sl H0.p, lenV_sl H0.b, elem_sp H0.p, elem_bt H0.b, view_sl H0.p, view_sl H0.b, scalar_sl H0.p, scalar_sl H0.b, cells_sl H0.p, cells_sl H0.b, pure_sl H0.p, pure_sl H0.b, Int.toNat_natCast, lenV_sl V, elem_in V, view_sl V, scalar_sl V, cells_sl V, pure_sl V, Int.toNat_natCast, g0, hf, gUn, s19]
  by_cases hl : (l.length : Int) > 40
  · simp (disch := first | assumption | omega | (simp only [az]; done)) only [ru, eq_self, if_true, if_false, BEq.rfl, binI, AO.row?, splice, fillL, mmAll, loadV, storeV, zeros, Am.rowAt, Am.part, addOff, Nat.reduceAdd, Nat.reduceMul, Nat.reduceLeDiff, Nat.reduceSub, Nat.reduceLT, Int.reduceEq, Int.reduceLT, Int.reduceLE, Int.reduceGT, Int.reduceGE, Int.reduceAdd, Int.reduceSub, Int.reduceMul, Int.reduceNeg, Int.reduceToNat, reduceCtorEq, reduceIte, lenV_sl H0.p, lenV_sl H0.b, elem_sp H0.p, elem_bt H0.b, view_sl H0.p, view_sl H0.b, scalar_sl H0.p, scalar_sl H0.b, cells_sl H0.p, cells_sl H0.b, pure_sl H0.p, pure_sl H0.b, Int.toNat_natCast, lenV_sl V, elem_in V, view_sl V, scalar_sl V, cells_sl V, pure_sl V, Int.toNat_natCast, g0, hf, hl, decide_true, s19]
  have H := far_no H0 hf
  obtain ⟨w, h', A, fr, RD⟩ := cpyV (eb := 8) (lim := 0) (h := [.cells [I s.w.lo, I s.w.hi, p, b] false]) V intE intSc (by omega) (by omega) (Nat.zero_le _)
  simp only [apC, apN, lenS, len0, Nat.zero_add, Nat.reduceAdd] at A
  have h0 : h'[0]? = some (.cells [I s.w.lo, I s.w.hi, p, b] false) := fr.at rfl
  have n0 := (List.getElem?_eq_some_iff.1 h0).1
  have rv := fun K st => (RD.fr (Fr.app h' K)).view intE intIv (st := st) (k := 7)
  have c40 := fun st => s40 H st
  obtain ⟨p', hp'⟩ : ∃ p', p' = slV 2 Spn.e s.pl := ⟨_, rfl⟩
  obtain ⟨b', hb'⟩ : ∃ b', b' = slV 2 Bt.e s.bo := ⟨_, rfl⟩
  have H2 := cp_ok H
  rw [← hp', ← hb'] at H2
  have hl' : l.length ≤ 41 := by omega
  have W := slV_is (esz := 1) (enc := intL) (l := l)
  have a1 := fun st => s27 H2 W hl' st
  have a2 := fun st => s60 H V hl' st
  have a3 := fun st => s61 H2 W hl' st
  have a4 := fun st => s62 H V hl' st
  have b1 := fun st => s38 H2 W hl' st
  have b2 := fun st => s63 H V hl' st
  have b3 := fun st => s42 H2 W hl' st
  have b4 := fun st => s64 H V hl' st
  have a5 := fun st => s54 W V (by omega) st
  have b7 := fun st => s59 H2 H st
  obtain ⟨q1, e1, r1⟩ := safR_ex (s := s) (l := l)
  obtain ⟨q2, e2, r2⟩ := lifR_ex (s := s) (l := l)
  obtain ⟨q3, e3, r3⟩ := firR_ex (s := s) (l := l)
  obtain ⟨q4, q5, e4, r4⟩ := swpR_ex (s := s) (l := l)
  simp only [cpV, ← hp', ← hb', seaV, r1, r2, r3, r4] at c40 a1 a2 a3 a4 b1 b2 b3 b4 b7
  simp (disch := first | assumption | omega | (simp only [az]; done)) only [ru, eq_self, if_true, if_false, BEq.rfl, binI, AO.row?, splice, fillL, mmAll, loadV, storeV, zeros, Am.rowAt, Am.part, addOff, Nat.reduceAdd, Nat.reduceMul, Nat.reduceLeDiff, Nat.reduceSub, Nat.reduceLT, Int.reduceEq, Int.reduceLT, Int.reduceLE, Int.reduceGT, Int.reduceGE, Int.reduceAdd, Int.reduceSub, Int.reduceMul, Int.reduceNeg, Int.reduceToNat, reduceCtorEq, reduceIte, lenV_sl H.p, lenV_sl H.b, elem_sp H.p, elem_bt H.b, view_sl H.p, view_sl H.b, scalar_sl H.p, scalar_sl H.b, cells_sl H.p, cells_sl H.b, pure_sl H.p, pure_sl H.b, Int.toNat_natCast, lenV_sl H2.p, lenV_sl H2.b, elem_sp H2.p, elem_bt H2.b, view_sl H2.p, view_sl H2.b, scalar_sl H2.p, scalar_sl H2.b, cells_sl H2.p, cells_sl H2.b, pure_sl H2.p, pure_sl H2.b, Int.toNat_natCast, lenV_sl V, elem_in V, view_sl V, scalar_sl V, cells_sl V, pure_sl V, Int.toNat_natCast, g0, hf, hl, decide_false, A, c40, List.append_assoc, lenE, setT, setT0, atT, atT0, Nat.add_assoc, at_ap, n0, h0, rv, a1, a2, a3, a4, decide_true, Bool.not_true]
  simp (disch := first | assumption | omega | (simp only [az]; done)) only [ru, eq_self, if_true, if_false, BEq.rfl, binI, AO.row?, splice, fillL, mmAll, loadV, storeV, zeros, Am.rowAt, Am.part, addOff, Nat.reduceAdd, Nat.reduceMul, Nat.reduceLeDiff, Nat.reduceSub, Nat.reduceLT, Int.reduceEq, Int.reduceLT, Int.reduceLE, Int.reduceGT, Int.reduceGE, Int.reduceAdd, Int.reduceSub, Int.reduceMul, Int.reduceNeg, Int.reduceToNat, reduceCtorEq, reduceIte, lenV_sl H.p, lenV_sl H.b, elem_sp H.p, elem_bt H.b, view_sl H.p, view_sl H.b, scalar_sl H.p, scalar_sl H.b, cells_sl H.p, cells_sl H.b, pure_sl H.p, pure_sl H.b, Int.toNat_natCast, lenV_sl H2.p, lenV_sl H2.b, elem_sp H2.p, elem_bt H2.b, view_sl H2.p, view_sl H2.b, scalar_sl H2.p, scalar_sl H2.b, cells_sl H2.p, cells_sl H2.b, pure_sl H2.p, pure_sl H2.b, Int.toNat_natCast, lenV_sl V, elem_in V, view_sl V, scalar_sl V, cells_sl V, pure_sl V, Int.toNat_natCast, List.append_assoc, lenE, setT, setT0, atT, atT0, Nat.add_assoc, at_ap, n0, h0, rv, b1, b2, b3, b4, a5, b7, decide_true, s19]

set_option maxHeartbeats 4000000 in
theorem s14 (H0 : SeaIn s p b) (st : Bool) : Iso E 14 [seaV s p b] st = some (Bo true) := by
  have g0 := fun st => s50 H0 st
  refine Iso_of (es _ _ _ _) e14 ?_
  simp only [f14, seaV] at g0 ⊢
  cases hf : far s
  case true => simp (disch := first | assumption | omega | (simp only [az]; done)) only [ru, eq_self, if_true, if_false, BEq.rfl, binI, AO.row?, splice, fillL, mmAll, loadV, storeV, zeros, Am.rowAt, Am.part, addOff, Nat.reduceAdd, Nat.reduceMul, Nat.reduceLeDiff, Nat.reduceSub, Nat.reduceLT, Int.reduceEq, Int.reduceLT, Int.reduceLE, Int.reduceGT, Int.reduceGE, Int.reduceAdd, Int.reduceSub, Int.reduceMul, Int.reduceNeg, Int.reduceToNat, reduceCtorEq, reduceIte, lenV_sl H0.p, lenV_sl H0.b, elem_sp H0.p, elem_bt H0.b, view_sl H0.p, view_sl H0.b, scalar_sl H0.p, scalar_sl H0.b, cells_sl H0.p, cells_sl H0.b, pure_sl H0.p, pure_sl H0.b, Int.toNat_natCast, g0, hf, gUn, s19]
  have H := far_no H0 hf
  have c40 := fun st => s40 H st
  obtain ⟨p', hp'⟩ : ∃ p', p' = slV 2 Spn.e s.pl := ⟨_, rfl⟩
  obtain ⟨b', hb'⟩ : ∃ b', b' = slV 2 Bt.e s.bo := ⟨_, rfl⟩
  have H2 := cp_ok H
  rw [← hp', ← hb'] at H2
  have a1 := fun st => s32 H2 st
  have a2 := fun st => s65 H st
  have a3 := s31 H2
  have a4 := s66 H
  have b7 := fun st => s59 H2 H st
  obtain ⟨q1, e1, r1⟩ := cheR_ex (s := s)
  obtain ⟨L, e2, lL, r2⟩ := creR_ex H
  have LL := resL_is L
  have a5 := fun st => s54 LL LL (by omega) st
  simp only [cpV, ← hp', ← hb', seaV, r1, r2] at c40 a1 a2 a3 a4 b7
  simp (disch := first | assumption | omega | (simp only [az]; done)) only [ru, eq_self, if_true, if_false, BEq.rfl, binI, AO.row?, splice, fillL, mmAll, loadV, storeV, zeros, Am.rowAt, Am.part, addOff, Nat.reduceAdd, Nat.reduceMul, Nat.reduceLeDiff, Nat.reduceSub, Nat.reduceLT, Int.reduceEq, Int.reduceLT, Int.reduceLE, Int.reduceGT, Int.reduceGE, Int.reduceAdd, Int.reduceSub, Int.reduceMul, Int.reduceNeg, Int.reduceToNat, reduceCtorEq, reduceIte, lenV_sl H.p, lenV_sl H.b, elem_sp H.p, elem_bt H.b, view_sl H.p, view_sl H.b, scalar_sl H.p, scalar_sl H.b, cells_sl H.p, cells_sl H.b, pure_sl H.p, pure_sl H.b, Int.toNat_natCast, lenV_sl H2.p, lenV_sl H2.b, elem_sp H2.p, elem_bt H2.b, view_sl H2.p, view_sl H2.b, scalar_sl H2.p, scalar_sl H2.b, cells_sl H2.p, cells_sl H2.b, pure_sl H2.p, pure_sl H2.b, Int.toNat_natCast, lenV_sl LL, elem_in LL, view_sl LL, scalar_sl LL, cells_sl LL, pure_sl LL, Int.toNat_natCast, g0, hf, c40, a1, a2, a3, a4, a5, b7, decide_true, s19]

set_option maxHeartbeats 4000000 in
theorem s15 (H0 : SeaIn s p b) (st : Bool) : Iso E 15 [seaV s p b] st = some (Bo true) := by
  have g0 := fun st => s50 H0 st
  refine Iso_of (es _ _ _ _) e15 ?_
  simp only [f15, seaV] at g0 ⊢
  cases hf : far s
  case true => simp (disch := first | assumption | omega | (simp only [az]; done)) only [ru, eq_self, if_true, if_false, BEq.rfl, binI, AO.row?, splice, fillL, mmAll, loadV, storeV, zeros, Am.rowAt, Am.part, addOff, Nat.reduceAdd, Nat.reduceMul, Nat.reduceLeDiff, Nat.reduceSub, Nat.reduceLT, Int.reduceEq, Int.reduceLT, Int.reduceLE, Int.reduceGT, Int.reduceGE, Int.reduceAdd, Int.reduceSub, Int.reduceMul, Int.reduceNeg, Int.reduceToNat, reduceCtorEq, reduceIte, lenV_sl H0.p, lenV_sl H0.b, elem_sp H0.p, elem_bt H0.b, view_sl H0.p, view_sl H0.b, scalar_sl H0.p, scalar_sl H0.b, cells_sl H0.p, cells_sl H0.b, pure_sl H0.p, pure_sl H0.b, Int.toNat_natCast, g0, hf, gUn, s19]
  have H := far_no H0 hf
  have c40 := fun st => s40 H st
  obtain ⟨p', hp'⟩ : ∃ p', p' = slV 2 Spn.e s.pl := ⟨_, rfl⟩
  obtain ⟨b', hb'⟩ : ∃ b', b' = slV 2 Bt.e s.bo := ⟨_, rfl⟩
  have H2 := cp_ok H
  rw [← hp', ← hb'] at H2
  have a1 := fun st => s67 H2 st
  have a2 := fun st => s68 H st
  have a3 := s34 H2
  have a4 := s69 H
  have b3 := s48 H2
  have b4 := s70 H
  have b7 := fun st => s59 H2 H st
  obtain ⟨q1, e1, r1⟩ := mosR_ex (s := s)
  obtain ⟨L, e2, lL, r2⟩ := shoR_ex H
  obtain ⟨M, e3, lM, r3⟩ := hlpR_ex H
  have LL := resL_is L
  have MM := resL_is M
  have a5 := fun st => s54 LL LL (by omega) st
  have a6 := fun st => s54 MM MM (by omega) st
  simp only [cpV, ← hp', ← hb', seaV, r1, r2, r3] at c40 a1 a2 a3 a4 b3 b4 b7
  simp (disch := first | assumption | omega | (simp only [az]; done)) only [ru, eq_self, if_true, if_false, BEq.rfl, binI, AO.row?, splice, fillL, mmAll, loadV, storeV, zeros, Am.rowAt, Am.part, addOff, Nat.reduceAdd, Nat.reduceMul, Nat.reduceLeDiff, Nat.reduceSub, Nat.reduceLT, Int.reduceEq, Int.reduceLT, Int.reduceLE, Int.reduceGT, Int.reduceGE, Int.reduceAdd, Int.reduceSub, Int.reduceMul, Int.reduceNeg, Int.reduceToNat, reduceCtorEq, reduceIte, lenV_sl H.p, lenV_sl H.b, elem_sp H.p, elem_bt H.b, view_sl H.p, view_sl H.b, scalar_sl H.p, scalar_sl H.b, cells_sl H.p, cells_sl H.b, pure_sl H.p, pure_sl H.b, Int.toNat_natCast, lenV_sl H2.p, lenV_sl H2.b, elem_sp H2.p, elem_bt H2.b, view_sl H2.p, view_sl H2.b, scalar_sl H2.p, scalar_sl H2.b, cells_sl H2.p, cells_sl H2.b, pure_sl H2.p, pure_sl H2.b, Int.toNat_natCast, lenV_sl LL, elem_in LL, view_sl LL, scalar_sl LL, cells_sl LL, pure_sl LL, Int.toNat_natCast, lenV_sl MM, elem_in MM, view_sl MM, scalar_sl MM, cells_sl MM, pure_sl MM, Int.toNat_natCast, g0, hf, c40, a1, a2, a3, a4, a5, a6, b3, b4, b7, decide_true, s19]
end
end Go.Proofs.Ytdmhbefdidmliaa.S

