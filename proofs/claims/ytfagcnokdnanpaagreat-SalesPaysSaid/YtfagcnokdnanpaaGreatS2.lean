/-
The mathematics and the functions, one after another (S2).
-/
import Derived.Test.YtfagcnokdnanpaaGreatS1
import Derived.Test.YtfagcnokdnanpaaGreatAmZ
/-
The specification: what is a sale, what it brings; what is valid; what is too much.
-/
namespace Go.Proofs.YtfagcnokdnanpaaGreat.S
open Go Go.Am Go.Proofs.YtfagcnokdnanpaaGreat.T
set_option maxRecDepth 100000
set_option linter.unusedSimpArgs false
set_option linter.unusedVariables false
section
variable {f : Fs} {k p b pv bv : AV} {w : Nat → AV}
set_option maxHeartbeats 4000000 in
theorem t58 (H : FsOk f k p b pv bv w) {R0 : List Int} {rv : AV} (RV : IsSl 1 intL R0 rv) (hR : R0.length ≤ 41) {s : List Int} {v : AV} (V : IsSl 1 intL s v) (hl : s.length ≤ 41) (st : Bool) :
    Iso E 58 [frV f k p b pv bv, v, rv] st = some (Bo (isS (fun x => decide (x ∈ R0)) f.bids s)) := by
  have nb := H.nb
  have a1 := fun st => s54 V (by omega) 0 (f.bids.length - 1) st
  have ar := fun (n : Int) st => s55 RV (by omega) n st
  have ep := elem_in V
  rw [isS_ref]
  refine Iso_of (es _ _ _ _) e58 ?_
  simp only [f58]
  cases c1 : risB s 0 (f.bids.length - 1)
  · rw [c1] at a1
    simp (disch := first | assumption | omega | (simp only [az]; done)) only [ru, eq_self, if_true, if_false, BEq.rfl, binI, AO.row?, splice, fillL, mmAll, loadV, storeV, zeros, Am.rowAt, Am.part, addOff, Nat.reduceAdd, Nat.reduceMul, Nat.reduceLeDiff, Nat.reduceSub, Nat.reduceLT, Int.reduceEq, Int.reduceLT, Int.reduceLE, Int.reduceGT, Int.reduceGE, Int.reduceAdd, Int.reduceSub, Int.reduceMul, Int.reduceNeg, Int.reduceToNat, reduceCtorEq, reduceIte, lenV_sl H.h.k, lenV_sl H.h.p, lenV_sl H.h.b, elem_kd H.h.k, elem_pr H.h.p, elem_in H.h.b, view_sl H.h.k, view_sl H.h.p, view_sl H.h.b, scalar_sl H.h.k, scalar_sl H.h.p, scalar_sl H.h.b, cells_sl H.h.k, cells_sl H.h.p, cells_sl H.h.b, pure_sl H.h.k, pure_sl H.h.p, pure_sl H.h.b, Int.toNat_natCast, lenV_sl H.pk, view_sl H.pk, scalar_sl H.pk, cells_sl H.pk, pure_sl H.pk, H.bi.len, H.bi.sc, H.bi.ce, H.bi.pu, H.bi.vw, lenV_sl V, view_sl V, scalar_sl V, cells_sl V, pure_sl V, lenV_sl RV, view_sl RV, scalar_sl RV, cells_sl RV, pure_sl RV, a1, Bool.not_false, Bool.false_and]
  rw [c1] at a1
  have hm := (ris_few c1).2.1
  rw [Bool.true_and]
  obtain ⟨Pd, hPd⟩ : ∃ Pd : Nat → Bool, Pd = fun i => (bAt f.bids (s.getD i 0)).bs.all (fun x => decide (x ∈ R0)) && (List.range i).all fun j => decide ((bAt f.bids (s.getD j 0)).u ≠ (bAt f.bids (s.getD i 0)).u) && !shr (bAt f.bids (s.getD j 0)) (bAt f.bids (s.getD i 0)) := ⟨_, rfl⟩
  have hPi : ∀ i, Pd i = ((bAt f.bids (s.getD i 0)).bs.all (fun x => decide (x ∈ R0)) && (List.range i).all fun j => decide ((bAt f.bids (s.getD j 0)).u ≠ (bAt f.bids (s.getD i 0)).u) && !shr (bAt f.bids (s.getD j 0)) (bAt f.bids (s.getD i 0))) := fun i => by rw [hPd]
  rw [← hPd]
  simp (disch := first | assumption | omega | (simp only [az]; done)) only [ru, eq_self, if_true, if_false, BEq.rfl, binI, AO.row?, splice, fillL, mmAll, loadV, storeV, zeros, Am.rowAt, Am.part, addOff, Nat.reduceAdd, Nat.reduceMul, Nat.reduceLeDiff, Nat.reduceSub, Nat.reduceLT, Int.reduceEq, Int.reduceLT, Int.reduceLE, Int.reduceGT, Int.reduceGE, Int.reduceAdd, Int.reduceSub, Int.reduceMul, Int.reduceNeg, Int.reduceToNat, reduceCtorEq, reduceIte, lenV_sl H.h.k, lenV_sl H.h.p, lenV_sl H.h.b, elem_kd H.h.k, elem_pr H.h.p, elem_in H.h.b, view_sl H.h.k, view_sl H.h.p, view_sl H.h.b, scalar_sl H.h.k, scalar_sl H.h.p, scalar_sl H.h.b, cells_sl H.h.k, cells_sl H.h.p, cells_sl H.h.b, pure_sl H.h.k, pure_sl H.h.p, pure_sl H.h.b, Int.toNat_natCast, lenV_sl H.pk, view_sl H.pk, scalar_sl H.pk, cells_sl H.pk, pure_sl H.pk, H.bi.len, H.bi.sc, H.bi.ce, H.bi.pu, H.bi.vw, lenV_sl V, view_sl V, scalar_sl V, cells_sl V, pure_sl V, lenV_sl RV, view_sl RV, scalar_sl RV, cells_sl RV, pure_sl RV, a1, Bool.not_true]
  refine G_loop_ind (fun m ts hh mk => ∃ i : Nat, i ≤ s.length ∧ m = s.length - i ∧ (List.range i).all Pd = true ∧ hh[0]? = some (.cells [k, I f.h.fl, p, b, pv, I f.d, I f.n, bv] false) ∧ ts.length = 63 ∧ ts.getD 1 .undef = v ∧ ts.getD 2 .undef = rv ∧ ts.getD 3 .undef = .ptr 0 0 ∧ ts.getD 7 .undef = I i ∧ mk = []) ?_ s.length _ _ _
    ⟨0, Nat.zero_le _, rfl, rfl, rfl, rfl, rfl, rfl, rfl, rfl, rfl⟩
  rintro m ts hh mk ih ⟨i, hi, rfl, hall, c0, hl', q1, q2, q3, q7, rfl⟩
  rw [lit_all hl']
  simp only [lit0, litS, Nat.reduceAdd, q1, q2, q3, q7]
  simp (disch := first | assumption | omega | (simp only [az]; done)) only [ru, eq_self, if_true, if_false, BEq.rfl, binI, AO.row?, splice, fillL, mmAll, loadV, storeV, zeros, Am.rowAt, Am.part, addOff, Nat.reduceAdd, Nat.reduceMul, Nat.reduceLeDiff, Nat.reduceSub, Nat.reduceLT, Int.reduceEq, Int.reduceLT, Int.reduceLE, Int.reduceGT, Int.reduceGE, Int.reduceAdd, Int.reduceSub, Int.reduceMul, Int.reduceNeg, Int.reduceToNat, reduceCtorEq, reduceIte, lenV_sl V, view_sl V, scalar_sl V, cells_sl V, pure_sl V]
  by_cases hlt : (i : Int) < s.length
  case neg =>
    obtain rfl : i = s.length := by omega
    simp (disch := first | assumption | omega | (simp only [az]; done)) only [ru, eq_self, if_true, if_false, BEq.rfl, binI, AO.row?, splice, fillL, mmAll, loadV, storeV, zeros, Am.rowAt, Am.part, addOff, Nat.reduceAdd, Nat.reduceMul, Nat.reduceLeDiff, Nat.reduceSub, Nat.reduceLT, Int.reduceEq, Int.reduceLT, Int.reduceLE, Int.reduceGT, Int.reduceGE, Int.reduceAdd, Int.reduceSub, Int.reduceMul, Int.reduceNeg, Int.reduceToNat, reduceCtorEq, reduceIte, hlt]
    rw [hall]
  have hi' : i < s.length := by omega
  have hx := hm _ (getD_memI hi')
  have no := fun hp => range_not (N := s.length) (p := Pd) hi' hp
  have nx := fun hp => range_all_succ (p := Pd) hall hp
  have hP := hPi i
  obtain ⟨x, ex⟩ : ∃ x, x = s.getD i 0 := ⟨_, rfl⟩
  rw [← ex] at hx hP
  obtain ⟨W, lW⟩ := bAt_w H hx.1 hx.2
  have eb := H.bi.el x hx.1 hx.2
  have m0 : 0 < hh.length := (List.getElem?_eq_some_iff.1 c0).1
  have epw := elem_in W
  have cA : (hh ++ [AO.cells [I (bAt f.bids x).u, w x.toNat, I (bAt f.bids x).c] false])[0]? = some (.cells [k, I f.h.fl, p, b, pv, I f.d, I f.n, bv] false) := by rw [at_ap m0]; exact c0
  simp (disch := first | assumption | omega | (simp only [az]; done)) only [ru, eq_self, if_true, if_false, BEq.rfl, binI, AO.row?, splice, fillL, mmAll, loadV, storeV, zeros, Am.rowAt, Am.part, addOff, Nat.reduceAdd, Nat.reduceMul, Nat.reduceLeDiff, Nat.reduceSub, Nat.reduceLT, Int.reduceEq, Int.reduceLT, Int.reduceLE, Int.reduceGT, Int.reduceGE, Int.reduceAdd, Int.reduceSub, Int.reduceMul, Int.reduceNeg, Int.reduceToNat, reduceCtorEq, reduceIte, lenV_sl H.h.k, lenV_sl H.h.p, lenV_sl H.h.b, elem_kd H.h.k, elem_pr H.h.p, elem_in H.h.b, view_sl H.h.k, view_sl H.h.p, view_sl H.h.b, scalar_sl H.h.k, scalar_sl H.h.p, scalar_sl H.h.b, cells_sl H.h.k, cells_sl H.h.p, cells_sl H.h.b, pure_sl H.h.k, pure_sl H.h.p, pure_sl H.h.b, Int.toNat_natCast, lenV_sl H.pk, view_sl H.pk, scalar_sl H.pk, cells_sl H.pk, pure_sl H.pk, H.bi.len, H.bi.sc, H.bi.ce, H.bi.pu, H.bi.vw, lenV_sl V, view_sl V, scalar_sl V, cells_sl V, pure_sl V, lenV_sl W, view_sl W, scalar_sl W, cells_sl W, pure_sl W, c0, at_ap m0, hlt, ep, Int.toNat_natCast, ← ex, eb, atE, setE, lenE]
  obtain ⟨h2, hh2⟩ : ∃ h2 : List AO, h2 = hh ++ [.cells [I (bAt f.bids x).u, w x.toNat, I (bAt f.bids x).c] false] := ⟨_, rfl⟩
  rw [← hh2] at cA ⊢
  have cB : h2[hh.length]? = some (.cells [I (bAt f.bids x).u, w x.toNat, I (bAt f.bids x).c] false) := by rw [hh2]; simp
  refine G_loop_ind (fun m ts h3 mk => ∃ j : Nat, j ≤ (bAt f.bids x).bs.length ∧ m = (bAt f.bids x).bs.length - j ∧ ((bAt f.bids x).bs.take j).all (fun y => decide (y ∈ R0)) = true ∧ h2 = h3 ∧ ts.length = 63 ∧ ts.getD 1 .undef = v ∧ ts.getD 2 .undef = rv ∧ ts.getD 3 .undef = .ptr 0 0 ∧ ts.getD 7 .undef = I i ∧ ts.getD 8 .undef = .ptr hh.length 0 ∧ ts.getD 9 .undef = I j ∧ mk = []) ?_ (bAt f.bids x).bs.length _ _ _
    ⟨0, Nat.zero_le _, rfl, rfl, rfl, rfl, rfl, rfl, rfl, rfl, rfl, rfl, rfl⟩
  rintro m ts2 h3 mk ih2 ⟨j, hj, rfl, hall2, rfl, hl2, r1, r2, r3, r7, r8, r9, rfl⟩
  rw [lit_all hl2]
  simp only [lit0, litS, Nat.reduceAdd, r1, r2, r3, r7, r8, r9]
  simp (disch := first | assumption | omega | (simp only [az]; done)) only [ru, eq_self, if_true, if_false, BEq.rfl, binI, AO.row?, splice, fillL, mmAll, loadV, storeV, zeros, Am.rowAt, Am.part, addOff, Nat.reduceAdd, Nat.reduceMul, Nat.reduceLeDiff, Nat.reduceSub, Nat.reduceLT, Int.reduceEq, Int.reduceLT, Int.reduceLE, Int.reduceGT, Int.reduceGE, Int.reduceAdd, Int.reduceSub, Int.reduceMul, Int.reduceNeg, Int.reduceToNat, reduceCtorEq, reduceIte, lenV_sl V, view_sl V, scalar_sl V, cells_sl V, pure_sl V, lenV_sl W, view_sl W, scalar_sl W, cells_sl W, pure_sl W, cB]
  by_cases hlt2 : (j : Int) < (bAt f.bids x).bs.length
  case pos =>
    have hj' : j < (bAt f.bids x).bs.length := by omega
    have nx2 := fun hp => all_upto_succ (p := fun y => decide (y ∈ R0)) hj' (x := (bAt f.bids x).bs.getD j 0) rfl hall2 hp
    have no2 := fun hp => all_not (p := fun y => decide (y ∈ R0)) hj' (x := (bAt f.bids x).bs.getD j 0) rfl hp
    cases hc : decide ((bAt f.bids x).bs.getD j 0 ∈ R0)
    · have ev := no (by rw [hP, no2 hc]; rfl)
      simp (disch := first | assumption | omega | (simp only [az]; done)) only [ru, eq_self, if_true, if_false, BEq.rfl, binI, AO.row?, splice, fillL, mmAll, loadV, storeV, zeros, Am.rowAt, Am.part, addOff, Nat.reduceAdd, Nat.reduceMul, Nat.reduceLeDiff, Nat.reduceSub, Nat.reduceLT, Int.reduceEq, Int.reduceLT, Int.reduceLE, Int.reduceGT, Int.reduceGE, Int.reduceAdd, Int.reduceSub, Int.reduceMul, Int.reduceNeg, Int.reduceToNat, reduceCtorEq, reduceIte, lenV_sl V, view_sl V, scalar_sl V, cells_sl V, pure_sl V, lenV_sl W, view_sl W, scalar_sl W, cells_sl W, pure_sl W, lenV_sl RV, view_sl RV, scalar_sl RV, cells_sl RV, pure_sl RV, cB, hlt2, epw, Int.toNat_natCast, ar, hc, Bool.not_false]
      rw [ev]
    · simp (disch := first | assumption | omega | (simp only [az]; done)) only [ru, eq_self, if_true, if_false, BEq.rfl, binI, AO.row?, splice, fillL, mmAll, loadV, storeV, zeros, Am.rowAt, Am.part, addOff, Nat.reduceAdd, Nat.reduceMul, Nat.reduceLeDiff, Nat.reduceSub, Nat.reduceLT, Int.reduceEq, Int.reduceLT, Int.reduceLE, Int.reduceGT, Int.reduceGE, Int.reduceAdd, Int.reduceSub, Int.reduceMul, Int.reduceNeg, Int.reduceToNat, reduceCtorEq, reduceIte, lenV_sl V, view_sl V, scalar_sl V, cells_sl V, pure_sl V, lenV_sl W, view_sl W, scalar_sl W, cells_sl W, pure_sl W, lenV_sl RV, view_sl RV, scalar_sl RV, cells_sl RV, pure_sl RV, cB, hlt2, epw, Int.toNat_natCast, ar, hc, Bool.not_true]
      exact ih2 ((bAt f.bids x).bs.length - (j + 1)) _ _ _ (by omega) ⟨j + 1, by omega, rfl, nx2 hc, rfl, rfl, rfl, rfl, rfl, rfl, rfl, rfl, rfl⟩
  obtain rfl : j = (bAt f.bids x).bs.length := by omega
  rw [List.take_length] at hall2
  rw [hall2, Bool.true_and] at hP
  simp (disch := first | assumption | omega | (simp only [az]; done)) only [ru, eq_self, if_true, if_false, BEq.rfl, binI, AO.row?, splice, fillL, mmAll, loadV, storeV, zeros, Am.rowAt, Am.part, addOff, Nat.reduceAdd, Nat.reduceMul, Nat.reduceLeDiff, Nat.reduceSub, Nat.reduceLT, Int.reduceEq, Int.reduceLT, Int.reduceLE, Int.reduceGT, Int.reduceGE, Int.reduceAdd, Int.reduceSub, Int.reduceMul, Int.reduceNeg, Int.reduceToNat, reduceCtorEq, reduceIte, hlt2]
  obtain ⟨Pe, hPe⟩ : ∃ Pe : Nat → Bool, Pe = fun j => decide ((bAt f.bids (s.getD j 0)).u ≠ (bAt f.bids x).u) && !shr (bAt f.bids (s.getD j 0)) (bAt f.bids x) := ⟨_, rfl⟩
  rw [← hPe] at hP
  refine G_loop_ind (fun m ts h3 mk => ∃ j : Nat, j ≤ i ∧ m = i - j ∧ (List.range j).all Pe = true ∧ h2 = h3 ∧ ts.length = 63 ∧ ts.getD 1 .undef = v ∧ ts.getD 2 .undef = rv ∧ ts.getD 3 .undef = .ptr 0 0 ∧ ts.getD 7 .undef = I i ∧ ts.getD 8 .undef = .ptr hh.length 0 ∧ ts.getD 10 .undef = I j ∧ mk = []) ?_ i _ _ _
    ⟨0, Nat.zero_le _, rfl, rfl, rfl, rfl, rfl, rfl, rfl, rfl, rfl, rfl, rfl⟩
  rintro m ts3 h3 mk ih3 ⟨j, hj, rfl, hall3, rfl, hl3, p1, p2, p3, p7, p8, p10, rfl⟩
  rw [lit_all hl3]
  simp only [lit0, litS, Nat.reduceAdd, p1, p2, p3, p7, p8, p10]
  simp (disch := first | assumption | omega | (simp only [az]; done)) only [ru, eq_self, if_true, if_false, BEq.rfl, binI, AO.row?, splice, fillL, mmAll, loadV, storeV, zeros, Am.rowAt, Am.part, addOff, Nat.reduceAdd, Nat.reduceMul, Nat.reduceLeDiff, Nat.reduceSub, Nat.reduceLT, Int.reduceEq, Int.reduceLT, Int.reduceLE, Int.reduceGT, Int.reduceGE, Int.reduceAdd, Int.reduceSub, Int.reduceMul, Int.reduceNeg, Int.reduceToNat, reduceCtorEq, reduceIte]
  by_cases hlt3 : (j : Int) < i
  case neg =>
    obtain rfl : j = i := by omega
    rw [hall3] at hP
    simp (disch := first | assumption | omega | (simp only [az]; done)) only [ru, eq_self, if_true, if_false, BEq.rfl, binI, AO.row?, splice, fillL, mmAll, loadV, storeV, zeros, Am.rowAt, Am.part, addOff, Nat.reduceAdd, Nat.reduceMul, Nat.reduceLeDiff, Nat.reduceSub, Nat.reduceLT, Int.reduceEq, Int.reduceLT, Int.reduceLE, Int.reduceGT, Int.reduceGE, Int.reduceAdd, Int.reduceSub, Int.reduceMul, Int.reduceNeg, Int.reduceToNat, reduceCtorEq, reduceIte, hlt3]
    exact ih (s.length - (j + 1)) _ _ _ (by omega) ⟨j + 1, by omega, rfl, nx hP, cA, rfl, rfl, rfl, rfl, rfl, rfl⟩
  have hji : j < i := by omega
  have hjl : (j : Int) < s.length := by omega
  have hy := hm _ (getD_memI (show j < s.length by omega))
  have no3 := fun hp => range_not (N := i) (p := Pe) hji hp
  have nx3 := fun hp => range_all_succ (p := Pe) hall3 hp
  have hPj : Pe j = (decide ((bAt f.bids (s.getD j 0)).u ≠ (bAt f.bids x).u) && !shr (bAt f.bids (s.getD j 0)) (bAt f.bids x)) := by rw [hPe]
  obtain ⟨y, ey⟩ : ∃ y, y = s.getD j 0 := ⟨_, rfl⟩
  rw [← ey] at hy hPj
  obtain ⟨U, lU⟩ := bAt_w H hy.1 hy.2
  have eby := H.bi.el y hy.1 hy.2
  have ap := fun st => t96 U W lU lW st
  cases hc : (decide ((bAt f.bids y).u ≠ (bAt f.bids x).u) && !shr (bAt f.bids y) (bAt f.bids x))
  · rw [hc] at ap hPj
    have ev := no (by rw [hP]; exact no3 hPj)
    simp (disch := first | assumption | omega | (simp only [az]; done)) only [ru, eq_self, if_true, if_false, BEq.rfl, binI, AO.row?, splice, fillL, mmAll, loadV, storeV, zeros, Am.rowAt, Am.part, addOff, Nat.reduceAdd, Nat.reduceMul, Nat.reduceLeDiff, Nat.reduceSub, Nat.reduceLT, Int.reduceEq, Int.reduceLT, Int.reduceLE, Int.reduceGT, Int.reduceGE, Int.reduceAdd, Int.reduceSub, Int.reduceMul, Int.reduceNeg, Int.reduceToNat, reduceCtorEq, reduceIte, lenV_sl H.h.k, lenV_sl H.h.p, lenV_sl H.h.b, elem_kd H.h.k, elem_pr H.h.p, elem_in H.h.b, view_sl H.h.k, view_sl H.h.p, view_sl H.h.b, scalar_sl H.h.k, scalar_sl H.h.p, scalar_sl H.h.b, cells_sl H.h.k, cells_sl H.h.p, cells_sl H.h.b, pure_sl H.h.k, pure_sl H.h.p, pure_sl H.h.b, Int.toNat_natCast, lenV_sl H.pk, view_sl H.pk, scalar_sl H.pk, cells_sl H.pk, pure_sl H.pk, H.bi.len, H.bi.sc, H.bi.ce, H.bi.pu, H.bi.vw, lenV_sl V, view_sl V, scalar_sl V, cells_sl V, pure_sl V, lenV_sl W, view_sl W, scalar_sl W, cells_sl W, pure_sl W, lenV_sl U, view_sl U, scalar_sl U, cells_sl U, pure_sl U, cA, cB, hlt3, hjl, ep, Int.toNat_natCast, ← ey, eby, ap, Bool.not_false]
    rw [ev]
  · rw [hc] at ap hPj
    simp (disch := first | assumption | omega | (simp only [az]; done)) only [ru, eq_self, if_true, if_false, BEq.rfl, binI, AO.row?, splice, fillL, mmAll, loadV, storeV, zeros, Am.rowAt, Am.part, addOff, Nat.reduceAdd, Nat.reduceMul, Nat.reduceLeDiff, Nat.reduceSub, Nat.reduceLT, Int.reduceEq, Int.reduceLT, Int.reduceLE, Int.reduceGT, Int.reduceGE, Int.reduceAdd, Int.reduceSub, Int.reduceMul, Int.reduceNeg, Int.reduceToNat, reduceCtorEq, reduceIte, lenV_sl H.h.k, lenV_sl H.h.p, lenV_sl H.h.b, elem_kd H.h.k, elem_pr H.h.p, elem_in H.h.b, view_sl H.h.k, view_sl H.h.p, view_sl H.h.b, scalar_sl H.h.k, scalar_sl H.h.p, scalar_sl H.h.b, cells_sl H.h.k, cells_sl H.h.p, cells_sl H.h.b, pure_sl H.h.k, pure_sl H.h.p, pure_sl H.h.b, Int.toNat_natCast, lenV_sl H.pk, view_sl H.pk, scalar_sl H.pk, cells_sl H.pk, pure_sl H.pk, H.bi.len, H.bi.sc, H.bi.ce, H.bi.pu, H.bi.vw, lenV_sl V, view_sl V, scalar_sl V, cells_sl V, pure_sl V, lenV_sl W, view_sl W, scalar_sl W, cells_sl W, pure_sl W, lenV_sl U, view_sl U, scalar_sl U, cells_sl U, pure_sl U, cA, cB, hlt3, hjl, ep, Int.toNat_natCast, ← ey, eby, ap, Bool.not_true]
    exact ih3 (i - (j + 1)) _ _ _ (by omega) ⟨j + 1, by omega, rfl, nx3 hPj, rfl, rfl, rfl, rfl, rfl, rfl, rfl, rfl, rfl⟩
set_option maxHeartbeats 1000000 in
theorem t19 (H : FsOk f k p b pv bv w) (G : FG f) {s : List Int} {v : AV} (V : IsSl 1 intL s v) (hl : s.length ≤ 41) (hs : ∀ x ∈ s, 0 ≤ x ∧ x < f.bids.length) (st : Bool) :
    Iso E 19 [frV f k p b pv bv, v] st = some (I (prc f.bids s)) := by
  have nb := H.nb
  have ep := elem_in V
  refine Iso_of (es _ _ _ _) e19 ?_
  simp only [f19]
  simp (disch := first | assumption | omega | (simp only [az]; done)) only [ru, eq_self, if_true, if_false, BEq.rfl, binI, AO.row?, splice, fillL, mmAll, loadV, storeV, zeros, Am.rowAt, Am.part, addOff, Nat.reduceAdd, Nat.reduceMul, Nat.reduceLeDiff, Nat.reduceSub, Nat.reduceLT, Int.reduceEq, Int.reduceLT, Int.reduceLE, Int.reduceGT, Int.reduceGE, Int.reduceAdd, Int.reduceSub, Int.reduceMul, Int.reduceNeg, Int.reduceToNat, reduceCtorEq, reduceIte, lenV_sl H.h.k, lenV_sl H.h.p, lenV_sl H.h.b, elem_kd H.h.k, elem_pr H.h.p, elem_in H.h.b, view_sl H.h.k, view_sl H.h.p, view_sl H.h.b, scalar_sl H.h.k, scalar_sl H.h.p, scalar_sl H.h.b, cells_sl H.h.k, cells_sl H.h.p, cells_sl H.h.b, pure_sl H.h.k, pure_sl H.h.p, pure_sl H.h.b, Int.toNat_natCast, lenV_sl H.pk, view_sl H.pk, scalar_sl H.pk, cells_sl H.pk, pure_sl H.pk, H.bi.len, H.bi.sc, H.bi.ce, H.bi.pu, H.bi.vw, lenV_sl V, view_sl V, scalar_sl V, cells_sl V, pure_sl V]
  refine G_loop_ind (fun m ts hh mk => ∃ i : Nat, i ≤ s.length ∧ m = s.length - i ∧ hh = [.cells [k, I f.h.fl, p, b, pv, I f.d, I f.n, bv] false] ∧ ts.length = 25 ∧ ts.getD 1 .undef = v ∧ ts.getD 2 .undef = .ptr 0 0 ∧ ts.getD 5 .undef = I (prc f.bids (s.take i)) ∧ ts.getD 6 .undef = I i ∧ mk = []) ?_ _ _ _ _
    ⟨0, Nat.zero_le _, rfl, rfl, rfl, rfl, rfl, rfl, rfl, rfl⟩
  rintro m ts hh mk ih ⟨i, hi, rfl, rfl, hl', q1, q2, q5, q6, rfl⟩
  rw [lit_all hl']
  simp only [lit0, litS, Nat.reduceAdd, q1, q2, q5, q6]
  simp (disch := first | assumption | omega | (simp only [az]; done)) only [ru, eq_self, if_true, if_false, BEq.rfl, binI, AO.row?, splice, fillL, mmAll, loadV, storeV, zeros, Am.rowAt, Am.part, addOff, Nat.reduceAdd, Nat.reduceMul, Nat.reduceLeDiff, Nat.reduceSub, Nat.reduceLT, Int.reduceEq, Int.reduceLT, Int.reduceLE, Int.reduceGT, Int.reduceGE, Int.reduceAdd, Int.reduceSub, Int.reduceMul, Int.reduceNeg, Int.reduceToNat, reduceCtorEq, reduceIte, lenV_sl V, view_sl V, scalar_sl V, cells_sl V, pure_sl V]
  by_cases hlt : (i : Int) < s.length
  case neg =>
    obtain rfl : i = s.length := by omega
    rw [List.take_length]
    simp (disch := first | assumption | omega | (simp only [az]; done)) only [ru, eq_self, if_true, if_false, BEq.rfl, binI, AO.row?, splice, fillL, mmAll, loadV, storeV, zeros, Am.rowAt, Am.part, addOff, Nat.reduceAdd, Nat.reduceMul, Nat.reduceLeDiff, Nat.reduceSub, Nat.reduceLT, Int.reduceEq, Int.reduceLT, Int.reduceLE, Int.reduceGT, Int.reduceGE, Int.reduceAdd, Int.reduceSub, Int.reduceMul, Int.reduceNeg, Int.reduceToNat, reduceCtorEq, reduceIte, hlt]
  have hi' : i < s.length := by omega
  have hmem : s.getD i 0 ∈ s := getD_memI hi'
  have hx := hs _ hmem
  have gx := G.bg.at hx.1 hx.2
  have bd := prc_bd G.bg (s := s.take i) fun y hy => hs y (List.mem_of_mem_take hy)
  have lt : (s.take i).length ≤ 41 := by rw [List.length_take]; omega
  have tk := take_snoc (d := 0) hi'
  have ps := prc_snoc (L := f.bids) (s := s.take i) (c := s.getD i 0)
  rw [← tk] at ps
  obtain ⟨x, ex⟩ : ∃ x, x = s.getD i 0 := ⟨_, rfl⟩
  rw [← ex] at hx gx ps
  have eb := H.bi.el x hx.1 hx.2
  obtain ⟨z, ez⟩ : ∃ z, z = prc f.bids (s.take i) := ⟨_, rfl⟩
  rw [← ez] at bd ps ⊢
  simp (disch := first | assumption | omega | (simp only [az]; done)) only [ru, eq_self, if_true, if_false, BEq.rfl, binI, AO.row?, splice, fillL, mmAll, loadV, storeV, zeros, Am.rowAt, Am.part, addOff, Nat.reduceAdd, Nat.reduceMul, Nat.reduceLeDiff, Nat.reduceSub, Nat.reduceLT, Int.reduceEq, Int.reduceLT, Int.reduceLE, Int.reduceGT, Int.reduceGE, Int.reduceAdd, Int.reduceSub, Int.reduceMul, Int.reduceNeg, Int.reduceToNat, reduceCtorEq, reduceIte, lenV_sl H.h.k, lenV_sl H.h.p, lenV_sl H.h.b, elem_kd H.h.k, elem_pr H.h.p, elem_in H.h.b, view_sl H.h.k, view_sl H.h.p, view_sl H.h.b, scalar_sl H.h.k, scalar_sl H.h.p, scalar_sl H.h.b, cells_sl H.h.k, cells_sl H.h.p, cells_sl H.h.b, pure_sl H.h.k, pure_sl H.h.p, pure_sl H.h.b, Int.toNat_natCast, lenV_sl H.pk, view_sl H.pk, scalar_sl H.pk, cells_sl H.pk, pure_sl H.pk, H.bi.len, H.bi.sc, H.bi.ce, H.bi.pu, H.bi.vw, hlt, ep, lenV_sl V, view_sl V, scalar_sl V, cells_sl V, pure_sl V, Int.toNat_natCast, ← ex, eb]
  exact ih (s.length - (i + 1)) _ _ _ (by omega) ⟨i + 1, by omega, rfl, rfl, rfl, rfl, rfl, by rw [ps]; rfl, rfl, rfl⟩
end
end Go.Proofs.YtfagcnokdnanpaaGreat.S
/-
The specification: what is valid; the laws: what is far too much, what they ask of the program's answers.
-/
namespace Go.Proofs.YtfagcnokdnanpaaGreat.S
open Go Go.Am Go.Proofs.YtfagcnokdnanpaaGreat.T
set_option maxRecDepth 100000
set_option linter.unusedSimpArgs false
set_option linter.unusedVariables false
def Fs.huge (f : Fs) : Bool := f.h.huge || decide ((f.pk.length : Int) > 40) || decide ((f.bids.length : Int) > 40) || !((List.range f.bids.length).all fun i => decide ((bAt f.bids i).bs.length ≤ 40))
theorem fE_f : fE false = 90 := rfl
theorem fE_t : fE true = 0 := rfl
section
variable {f : Fs} {k p b pv bv : AV} {w : Nat → AV}
set_option maxHeartbeats 2000000 in
theorem t39 (H : FsOk f k p b pv bv w) (st : Bool) : Iso E 39 [frV f k p b pv bv] st = some (I (fE f.valid)) := by
  have nb := H.nb
  have a1 := fun st => s20 H.ho st
  simp only [hsV] at a1
  refine Iso_of (es _ _ _ _) e39 ?_
  simp only [f39, frV]
  have vd : f.valid = (f.h.valid && f.h.isP f.pk && inR f.d 0 20 && inR f.n 0 4 && decide ((f.bids.length : Int) ≤ 8) && (List.range f.bids.length).all fun i => bidOk f.n f.h.bs.length (bAt f.bids i)) := rfl
  cases c1 : f.h.valid
  · simp only [c1, vE, Bool.false_eq_true, if_false] at a1
    rw [show f.valid = false by rw [vd, c1]; rfl]
    simp (disch := first | assumption | omega | (simp only [az]; done)) only [ru, eq_self, if_true, if_false, BEq.rfl, binI, AO.row?, splice, fillL, mmAll, loadV, storeV, zeros, Am.rowAt, Am.part, addOff, Nat.reduceAdd, Nat.reduceMul, Nat.reduceLeDiff, Nat.reduceSub, Nat.reduceLT, Int.reduceEq, Int.reduceLT, Int.reduceLE, Int.reduceGT, Int.reduceGE, Int.reduceAdd, Int.reduceSub, Int.reduceMul, Int.reduceNeg, Int.reduceToNat, reduceCtorEq, reduceIte, lenV_sl H.h.k, lenV_sl H.h.p, lenV_sl H.h.b, elem_kd H.h.k, elem_pr H.h.p, elem_in H.h.b, view_sl H.h.k, view_sl H.h.p, view_sl H.h.b, scalar_sl H.h.k, scalar_sl H.h.p, scalar_sl H.h.b, cells_sl H.h.k, cells_sl H.h.p, cells_sl H.h.b, pure_sl H.h.k, pure_sl H.h.p, pure_sl H.h.b, Int.toNat_natCast, lenV_sl H.pk, view_sl H.pk, scalar_sl H.pk, cells_sl H.pk, pure_sl H.pk, H.bi.len, H.bi.sc, H.bi.ce, H.bi.pu, H.bi.vw, a1, gUn, fE_f]
  simp only [c1, vE, if_true] at a1
  have G := valid_iff.1 c1
  have a2 := fun st => s47 H.ho G H.pk (by have := H.np; omega) st
  simp only [hsV] at a2
  cases c2 : f.h.isP f.pk
  · rw [c2] at a2
    rw [show f.valid = false by rw [vd, c2]; simp]
    simp (disch := first | assumption | omega | (simp only [az]; done)) only [ru, eq_self, if_true, if_false, BEq.rfl, binI, AO.row?, splice, fillL, mmAll, loadV, storeV, zeros, Am.rowAt, Am.part, addOff, Nat.reduceAdd, Nat.reduceMul, Nat.reduceLeDiff, Nat.reduceSub, Nat.reduceLT, Int.reduceEq, Int.reduceLT, Int.reduceLE, Int.reduceGT, Int.reduceGE, Int.reduceAdd, Int.reduceSub, Int.reduceMul, Int.reduceNeg, Int.reduceToNat, reduceCtorEq, reduceIte, lenV_sl H.h.k, lenV_sl H.h.p, lenV_sl H.h.b, elem_kd H.h.k, elem_pr H.h.p, elem_in H.h.b, view_sl H.h.k, view_sl H.h.p, view_sl H.h.b, scalar_sl H.h.k, scalar_sl H.h.p, scalar_sl H.h.b, cells_sl H.h.k, cells_sl H.h.p, cells_sl H.h.b, pure_sl H.h.k, pure_sl H.h.p, pure_sl H.h.b, Int.toNat_natCast, lenV_sl H.pk, view_sl H.pk, scalar_sl H.pk, cells_sl H.pk, pure_sl H.pk, H.bi.len, H.bi.sc, H.bi.ce, H.bi.pu, H.bi.vw, a1, a2, gUn, fE_f, Bool.not_false]
  rw [c2] at a2
  cases c3 : inR f.d 0 20
  · rw [show f.valid = false by rw [vd, c3]; simp]
    simp (disch := first | assumption | omega | (simp only [az]; done)) only [ru, eq_self, if_true, if_false, BEq.rfl, binI, AO.row?, splice, fillL, mmAll, loadV, storeV, zeros, Am.rowAt, Am.part, addOff, Nat.reduceAdd, Nat.reduceMul, Nat.reduceLeDiff, Nat.reduceSub, Nat.reduceLT, Int.reduceEq, Int.reduceLT, Int.reduceLE, Int.reduceGT, Int.reduceGE, Int.reduceAdd, Int.reduceSub, Int.reduceMul, Int.reduceNeg, Int.reduceToNat, reduceCtorEq, reduceIte, lenV_sl H.h.k, lenV_sl H.h.p, lenV_sl H.h.b, elem_kd H.h.k, elem_pr H.h.p, elem_in H.h.b, view_sl H.h.k, view_sl H.h.p, view_sl H.h.b, scalar_sl H.h.k, scalar_sl H.h.p, scalar_sl H.h.b, cells_sl H.h.k, cells_sl H.h.p, cells_sl H.h.b, pure_sl H.h.k, pure_sl H.h.p, pure_sl H.h.b, Int.toNat_natCast, lenV_sl H.pk, view_sl H.pk, scalar_sl H.pk, cells_sl H.pk, pure_sl H.pk, H.bi.len, H.bi.sc, H.bi.ce, H.bi.pu, H.bi.vw, a1, a2, t68, c3, gUn, fE_f, Bool.not_false, Bool.not_true]
  cases c4 : inR f.n 0 4
  · rw [show f.valid = false by rw [vd, c4]; simp]
    simp (disch := first | assumption | omega | (simp only [az]; done)) only [ru, eq_self, if_true, if_false, BEq.rfl, binI, AO.row?, splice, fillL, mmAll, loadV, storeV, zeros, Am.rowAt, Am.part, addOff, Nat.reduceAdd, Nat.reduceMul, Nat.reduceLeDiff, Nat.reduceSub, Nat.reduceLT, Int.reduceEq, Int.reduceLT, Int.reduceLE, Int.reduceGT, Int.reduceGE, Int.reduceAdd, Int.reduceSub, Int.reduceMul, Int.reduceNeg, Int.reduceToNat, reduceCtorEq, reduceIte, lenV_sl H.h.k, lenV_sl H.h.p, lenV_sl H.h.b, elem_kd H.h.k, elem_pr H.h.p, elem_in H.h.b, view_sl H.h.k, view_sl H.h.p, view_sl H.h.b, scalar_sl H.h.k, scalar_sl H.h.p, scalar_sl H.h.b, cells_sl H.h.k, cells_sl H.h.p, cells_sl H.h.b, pure_sl H.h.k, pure_sl H.h.p, pure_sl H.h.b, Int.toNat_natCast, lenV_sl H.pk, view_sl H.pk, scalar_sl H.pk, cells_sl H.pk, pure_sl H.pk, H.bi.len, H.bi.sc, H.bi.ce, H.bi.pu, H.bi.vw, a1, a2, t68, c3, c4, gUn, fE_f, Bool.not_false, Bool.not_true]
  by_cases c5 : (f.bids.length : Int) > 8
  · have c5' : ¬ (f.bids.length : Int) ≤ 8 := by omega
    rw [show f.valid = false by rw [vd, decide_eq_false c5']; simp]
    simp (disch := first | assumption | omega | (simp only [az]; done)) only [ru, eq_self, if_true, if_false, BEq.rfl, binI, AO.row?, splice, fillL, mmAll, loadV, storeV, zeros, Am.rowAt, Am.part, addOff, Nat.reduceAdd, Nat.reduceMul, Nat.reduceLeDiff, Nat.reduceSub, Nat.reduceLT, Int.reduceEq, Int.reduceLT, Int.reduceLE, Int.reduceGT, Int.reduceGE, Int.reduceAdd, Int.reduceSub, Int.reduceMul, Int.reduceNeg, Int.reduceToNat, reduceCtorEq, reduceIte, lenV_sl H.h.k, lenV_sl H.h.p, lenV_sl H.h.b, elem_kd H.h.k, elem_pr H.h.p, elem_in H.h.b, view_sl H.h.k, view_sl H.h.p, view_sl H.h.b, scalar_sl H.h.k, scalar_sl H.h.p, scalar_sl H.h.b, cells_sl H.h.k, cells_sl H.h.p, cells_sl H.h.b, pure_sl H.h.k, pure_sl H.h.p, pure_sl H.h.b, Int.toNat_natCast, lenV_sl H.pk, view_sl H.pk, scalar_sl H.pk, cells_sl H.pk, pure_sl H.pk, H.bi.len, H.bi.sc, H.bi.ce, H.bi.pu, H.bi.vw, a1, a2, t68, c3, c4, c5, gUn, decide_true, fE_f, Bool.not_false, Bool.not_true]
  have c5' : (f.bids.length : Int) ≤ 8 := by omega
  have hn := inR_iff.1 c4
  have bu := fun (n : Int) st => t27 H.toFsIn n ⟨by omega, by omega⟩ st
  simp only [frV] at bu
  have nbs := H.ho.nb
  rw [show f.valid = ((List.range f.bids.length).all fun i => bidOk f.n f.h.bs.length (bAt f.bids i)) by rw [vd, c1, c2, c3, c4, decide_eq_true c5']; simp]
  simp (disch := first | assumption | omega | (simp only [az]; done)) only [ru, eq_self, if_true, if_false, BEq.rfl, binI, AO.row?, splice, fillL, mmAll, loadV, storeV, zeros, Am.rowAt, Am.part, addOff, Nat.reduceAdd, Nat.reduceMul, Nat.reduceLeDiff, Nat.reduceSub, Nat.reduceLT, Int.reduceEq, Int.reduceLT, Int.reduceLE, Int.reduceGT, Int.reduceGE, Int.reduceAdd, Int.reduceSub, Int.reduceMul, Int.reduceNeg, Int.reduceToNat, reduceCtorEq, reduceIte, lenV_sl H.h.k, lenV_sl H.h.p, lenV_sl H.h.b, elem_kd H.h.k, elem_pr H.h.p, elem_in H.h.b, view_sl H.h.k, view_sl H.h.p, view_sl H.h.b, scalar_sl H.h.k, scalar_sl H.h.p, scalar_sl H.h.b, cells_sl H.h.k, cells_sl H.h.p, cells_sl H.h.b, pure_sl H.h.k, pure_sl H.h.p, pure_sl H.h.b, Int.toNat_natCast, lenV_sl H.pk, view_sl H.pk, scalar_sl H.pk, cells_sl H.pk, pure_sl H.pk, H.bi.len, H.bi.sc, H.bi.ce, H.bi.pu, H.bi.vw, a1, a2, t68, c3, c4, c5, gUn, decide_false, Bool.not_true]
  refine G_loop_ind (fun m ts hh mk => ∃ i : Nat, i ≤ f.bids.length ∧ m = f.bids.length - i ∧ ((List.range i).all fun i => bidOk f.n f.h.bs.length (bAt f.bids i)) = true ∧ hh[0]? = some (.cells [k, I f.h.fl, p, b, pv, I f.d, I f.n, bv] false) ∧ ts.length = 73 ∧ ts.getD 1 .undef = .ptr 0 0 ∧ ts.getD 3 .undef = I i ∧ mk = []) ?_ f.bids.length _ _ _
    ⟨0, Nat.zero_le _, rfl, rfl, rfl, rfl, rfl, rfl, rfl⟩
  rintro m ts hh mk ih ⟨i, hi, rfl, hall, c0, hl', q1, q3, rfl⟩
  rw [lit_all hl']
  simp only [lit0, litS, Nat.reduceAdd, q1, q3]
  simp (disch := first | assumption | omega | (simp only [az]; done)) only [ru, eq_self, if_true, if_false, BEq.rfl, binI, AO.row?, splice, fillL, mmAll, loadV, storeV, zeros, Am.rowAt, Am.part, addOff, Nat.reduceAdd, Nat.reduceMul, Nat.reduceLeDiff, Nat.reduceSub, Nat.reduceLT, Int.reduceEq, Int.reduceLT, Int.reduceLE, Int.reduceGT, Int.reduceGE, Int.reduceAdd, Int.reduceSub, Int.reduceMul, Int.reduceNeg, Int.reduceToNat, reduceCtorEq, reduceIte, lenV_sl H.h.k, lenV_sl H.h.p, lenV_sl H.h.b, elem_kd H.h.k, elem_pr H.h.p, elem_in H.h.b, view_sl H.h.k, view_sl H.h.p, view_sl H.h.b, scalar_sl H.h.k, scalar_sl H.h.p, scalar_sl H.h.b, cells_sl H.h.k, cells_sl H.h.p, cells_sl H.h.b, pure_sl H.h.k, pure_sl H.h.p, pure_sl H.h.b, Int.toNat_natCast, lenV_sl H.pk, view_sl H.pk, scalar_sl H.pk, cells_sl H.pk, pure_sl H.pk, H.bi.len, H.bi.sc, H.bi.ce, H.bi.pu, H.bi.vw, c0]
  by_cases hlt : (i : Int) < f.bids.length
  case neg =>
    obtain rfl : i = f.bids.length := by omega
    simp (disch := first | assumption | omega | (simp only [az]; done)) only [ru, eq_self, if_true, if_false, BEq.rfl, binI, AO.row?, splice, fillL, mmAll, loadV, storeV, zeros, Am.rowAt, Am.part, addOff, Nat.reduceAdd, Nat.reduceMul, Nat.reduceLeDiff, Nat.reduceSub, Nat.reduceLT, Int.reduceEq, Int.reduceLT, Int.reduceLE, Int.reduceGT, Int.reduceGE, Int.reduceAdd, Int.reduceSub, Int.reduceMul, Int.reduceNeg, Int.reduceToNat, reduceCtorEq, reduceIte, hlt]
    rw [hall]; rfl
  have hi' : i < f.bids.length := by omega
  have no := fun hp => range_not (N := f.bids.length) (p := fun i => bidOk f.n f.h.bs.length (bAt f.bids i)) hi' hp
  have nx := fun hp => range_all_succ (p := fun i => bidOk f.n f.h.bs.length (bAt f.bids i)) hall hp
  have eb := H.bi.el i (by omega) hlt
  obtain ⟨W, lW⟩ := bAt_w H (i := (i : Int)) (by omega) hlt
  have m0 : 0 < hh.length := (List.getElem?_eq_some_iff.1 c0).1
  rw [Int.toNat_natCast] at eb W
  obtain ⟨x, hx⟩ : ∃ x, x = bAt f.bids i := ⟨_, rfl⟩
  rw [← hx] at eb W lW
  have hok : bidOk f.n f.h.bs.length (bAt f.bids i) = (inR x.u 0 (f.n - 1) && inR x.c 0 99 && decide (0 < (x.bs.length : Int)) && risB x.bs 0 (f.h.bs.length - 1)) := by rw [← hx]; rfl
  have a4 := fun st => s54 W (by omega) 0 (f.h.bs.length - 1) st
  have cA : ∀ a, (hh ++ [a])[0]? = some (.cells [k, I f.h.fl, p, b, pv, I f.d, I f.n, bv] false) := fun a => by rw [at_ap m0]; exact c0
  cases e1 : inR x.u 0 (f.n - 1)
  · have ev := no (by rw [hok, e1]; rfl)
    simp (disch := first | assumption | omega | (simp only [az]; done)) only [ru, eq_self, if_true, if_false, BEq.rfl, binI, AO.row?, splice, fillL, mmAll, loadV, storeV, zeros, Am.rowAt, Am.part, addOff, Nat.reduceAdd, Nat.reduceMul, Nat.reduceLeDiff, Nat.reduceSub, Nat.reduceLT, Int.reduceEq, Int.reduceLT, Int.reduceLE, Int.reduceGT, Int.reduceGE, Int.reduceAdd, Int.reduceSub, Int.reduceMul, Int.reduceNeg, Int.reduceToNat, reduceCtorEq, reduceIte, lenV_sl H.h.k, lenV_sl H.h.p, lenV_sl H.h.b, elem_kd H.h.k, elem_pr H.h.p, elem_in H.h.b, view_sl H.h.k, view_sl H.h.p, view_sl H.h.b, scalar_sl H.h.k, scalar_sl H.h.p, scalar_sl H.h.b, cells_sl H.h.k, cells_sl H.h.p, cells_sl H.h.b, pure_sl H.h.k, pure_sl H.h.p, pure_sl H.h.b, Int.toNat_natCast, lenV_sl H.pk, view_sl H.pk, scalar_sl H.pk, cells_sl H.pk, pure_sl H.pk, H.bi.len, H.bi.sc, H.bi.ce, H.bi.pu, H.bi.vw, lenV_sl W, view_sl W, scalar_sl W, cells_sl W, pure_sl W, c0, cA, hlt, eb, bu, e1, atE, setE, lenE, Nat.zero_le, gUn, Bool.not_false]
    rw [ev]; rfl
  by_cases e2 : (x.bs.length : Int) = 0
  · have e2' : ((x.bs.length : Int) == 0) = true := by rw [beq_iff_eq]; exact e2
    have ev := no (by rw [hok, decide_eq_false (show ¬ (0 : Int) < (x.bs.length : Int) by omega)]; simp)
    simp (disch := first | assumption | omega | (simp only [az]; done)) only [ru, eq_self, if_true, if_false, BEq.rfl, binI, AO.row?, splice, fillL, mmAll, loadV, storeV, zeros, Am.rowAt, Am.part, addOff, Nat.reduceAdd, Nat.reduceMul, Nat.reduceLeDiff, Nat.reduceSub, Nat.reduceLT, Int.reduceEq, Int.reduceLT, Int.reduceLE, Int.reduceGT, Int.reduceGE, Int.reduceAdd, Int.reduceSub, Int.reduceMul, Int.reduceNeg, Int.reduceToNat, reduceCtorEq, reduceIte, lenV_sl H.h.k, lenV_sl H.h.p, lenV_sl H.h.b, elem_kd H.h.k, elem_pr H.h.p, elem_in H.h.b, view_sl H.h.k, view_sl H.h.p, view_sl H.h.b, scalar_sl H.h.k, scalar_sl H.h.p, scalar_sl H.h.b, cells_sl H.h.k, cells_sl H.h.p, cells_sl H.h.b, pure_sl H.h.k, pure_sl H.h.p, pure_sl H.h.b, Int.toNat_natCast, lenV_sl H.pk, view_sl H.pk, scalar_sl H.pk, cells_sl H.pk, pure_sl H.pk, H.bi.len, H.bi.sc, H.bi.ce, H.bi.pu, H.bi.vw, lenV_sl W, view_sl W, scalar_sl W, cells_sl W, pure_sl W, c0, cA, hlt, eb, bu, e1, e2', atE, setE, lenE, Nat.zero_le, gUn, Bool.not_true]
    rw [ev]; rfl
  have e2' : ((x.bs.length : Int) == 0) = false := by rw [beq_eq_false_iff_ne]; exact e2
  cases e3 : risB x.bs 0 (f.h.bs.length - 1)
  · have ev := no (by rw [hok, e3, Bool.and_false])
    rw [e3] at a4
    simp (disch := first | assumption | omega | (simp only [az]; done)) only [ru, eq_self, if_true, if_false, BEq.rfl, binI, AO.row?, splice, fillL, mmAll, loadV, storeV, zeros, Am.rowAt, Am.part, addOff, Nat.reduceAdd, Nat.reduceMul, Nat.reduceLeDiff, Nat.reduceSub, Nat.reduceLT, Int.reduceEq, Int.reduceLT, Int.reduceLE, Int.reduceGT, Int.reduceGE, Int.reduceAdd, Int.reduceSub, Int.reduceMul, Int.reduceNeg, Int.reduceToNat, reduceCtorEq, reduceIte, lenV_sl H.h.k, lenV_sl H.h.p, lenV_sl H.h.b, elem_kd H.h.k, elem_pr H.h.p, elem_in H.h.b, view_sl H.h.k, view_sl H.h.p, view_sl H.h.b, scalar_sl H.h.k, scalar_sl H.h.p, scalar_sl H.h.b, cells_sl H.h.k, cells_sl H.h.p, cells_sl H.h.b, pure_sl H.h.k, pure_sl H.h.p, pure_sl H.h.b, Int.toNat_natCast, lenV_sl H.pk, view_sl H.pk, scalar_sl H.pk, cells_sl H.pk, pure_sl H.pk, H.bi.len, H.bi.sc, H.bi.ce, H.bi.pu, H.bi.vw, lenV_sl W, view_sl W, scalar_sl W, cells_sl W, pure_sl W, c0, cA, hlt, eb, bu, e1, e2', a4, atE, setE, lenE, Nat.zero_le, gUn, Bool.not_true, Bool.not_false]
    rw [ev]; rfl
  rw [e3] at a4
  cases e4 : inR x.c 0 99
  · have ev := no (by rw [hok, e4, Bool.and_false]; rfl)
    simp (disch := first | assumption | omega | (simp only [az]; done)) only [ru, eq_self, if_true, if_false, BEq.rfl, binI, AO.row?, splice, fillL, mmAll, loadV, storeV, zeros, Am.rowAt, Am.part, addOff, Nat.reduceAdd, Nat.reduceMul, Nat.reduceLeDiff, Nat.reduceSub, Nat.reduceLT, Int.reduceEq, Int.reduceLT, Int.reduceLE, Int.reduceGT, Int.reduceGE, Int.reduceAdd, Int.reduceSub, Int.reduceMul, Int.reduceNeg, Int.reduceToNat, reduceCtorEq, reduceIte, lenV_sl H.h.k, lenV_sl H.h.p, lenV_sl H.h.b, elem_kd H.h.k, elem_pr H.h.p, elem_in H.h.b, view_sl H.h.k, view_sl H.h.p, view_sl H.h.b, scalar_sl H.h.k, scalar_sl H.h.p, scalar_sl H.h.b, cells_sl H.h.k, cells_sl H.h.p, cells_sl H.h.b, pure_sl H.h.k, pure_sl H.h.p, pure_sl H.h.b, Int.toNat_natCast, lenV_sl H.pk, view_sl H.pk, scalar_sl H.pk, cells_sl H.pk, pure_sl H.pk, H.bi.len, H.bi.sc, H.bi.ce, H.bi.pu, H.bi.vw, lenV_sl W, view_sl W, scalar_sl W, cells_sl W, pure_sl W, c0, cA, hlt, eb, bu, e1, e2', a4, t68, e4, atE, setE, lenE, Nat.zero_le, gUn, Bool.not_true, Bool.not_false]
    rw [ev]; rfl
  have e5 : bidOk f.n f.h.bs.length (bAt f.bids i) = true := by
    rw [hok, e1, e3, e4, decide_eq_true (show (0 : Int) < (x.bs.length : Int) by omega)]; rfl
  simp (disch := first | assumption | omega | (simp only [az]; done)) only [ru, eq_self, if_true, if_false, BEq.rfl, binI, AO.row?, splice, fillL, mmAll, loadV, storeV, zeros, Am.rowAt, Am.part, addOff, Nat.reduceAdd, Nat.reduceMul, Nat.reduceLeDiff, Nat.reduceSub, Nat.reduceLT, Int.reduceEq, Int.reduceLT, Int.reduceLE, Int.reduceGT, Int.reduceGE, Int.reduceAdd, Int.reduceSub, Int.reduceMul, Int.reduceNeg, Int.reduceToNat, reduceCtorEq, reduceIte, lenV_sl H.h.k, lenV_sl H.h.p, lenV_sl H.h.b, elem_kd H.h.k, elem_pr H.h.p, elem_in H.h.b, view_sl H.h.k, view_sl H.h.p, view_sl H.h.b, scalar_sl H.h.k, scalar_sl H.h.p, scalar_sl H.h.b, cells_sl H.h.k, cells_sl H.h.p, cells_sl H.h.b, pure_sl H.h.k, pure_sl H.h.p, pure_sl H.h.b, Int.toNat_natCast, lenV_sl H.pk, view_sl H.pk, scalar_sl H.pk, cells_sl H.pk, pure_sl H.pk, H.bi.len, H.bi.sc, H.bi.ce, H.bi.pu, H.bi.vw, lenV_sl W, view_sl W, scalar_sl W, cells_sl W, pure_sl W, c0, cA, hlt, eb, bu, e1, e2', a4, t68, e4, atE, setE, lenE, Nat.zero_le, gUn, Bool.not_true, Bool.not_false]
  exact ih (f.bids.length - (i + 1)) _ _ _ (by omega) ⟨i + 1, by omega, rfl, nx e5, cA _, rfl, rfl, rfl, rfl⟩
set_option maxHeartbeats 1000000 in
theorem t37 (H : FsIn f k p b pv bv w) (st : Bool) : Iso E 37 [frV f k p b pv bv] st = some (Bo f.huge) := by
  have a1 := fun st => s15 H.h st
  simp only [hsV] at a1
  refine Iso_of (es _ _ _ _) e37 ?_
  simp only [f37, frV, Fs.huge]
  cases c1 : f.h.huge
  case true =>
    rw [c1] at a1
    simp (disch := first | assumption | omega | (simp only [az]; done)) only [ru, eq_self, if_true, if_false, BEq.rfl, binI, AO.row?, splice, fillL, mmAll, loadV, storeV, zeros, Am.rowAt, Am.part, addOff, Nat.reduceAdd, Nat.reduceMul, Nat.reduceLeDiff, Nat.reduceSub, Nat.reduceLT, Int.reduceEq, Int.reduceLT, Int.reduceLE, Int.reduceGT, Int.reduceGE, Int.reduceAdd, Int.reduceSub, Int.reduceMul, Int.reduceNeg, Int.reduceToNat, reduceCtorEq, reduceIte, lenV_sl H.h.k, lenV_sl H.h.p, lenV_sl H.h.b, elem_kd H.h.k, elem_pr H.h.p, elem_in H.h.b, view_sl H.h.k, view_sl H.h.p, view_sl H.h.b, scalar_sl H.h.k, scalar_sl H.h.p, scalar_sl H.h.b, cells_sl H.h.k, cells_sl H.h.p, cells_sl H.h.b, pure_sl H.h.k, pure_sl H.h.p, pure_sl H.h.b, Int.toNat_natCast, lenV_sl H.pk, view_sl H.pk, scalar_sl H.pk, cells_sl H.pk, pure_sl H.pk, H.bi.len, H.bi.sc, H.bi.ce, H.bi.pu, H.bi.vw, a1, gUn, Bool.true_or]
  rw [c1] at a1
  by_cases c2 : (f.pk.length : Int) > 40
  · simp (disch := first | assumption | omega | (simp only [az]; done)) only [ru, eq_self, if_true, if_false, BEq.rfl, binI, AO.row?, splice, fillL, mmAll, loadV, storeV, zeros, Am.rowAt, Am.part, addOff, Nat.reduceAdd, Nat.reduceMul, Nat.reduceLeDiff, Nat.reduceSub, Nat.reduceLT, Int.reduceEq, Int.reduceLT, Int.reduceLE, Int.reduceGT, Int.reduceGE, Int.reduceAdd, Int.reduceSub, Int.reduceMul, Int.reduceNeg, Int.reduceToNat, reduceCtorEq, reduceIte, lenV_sl H.h.k, lenV_sl H.h.p, lenV_sl H.h.b, elem_kd H.h.k, elem_pr H.h.p, elem_in H.h.b, view_sl H.h.k, view_sl H.h.p, view_sl H.h.b, scalar_sl H.h.k, scalar_sl H.h.p, scalar_sl H.h.b, cells_sl H.h.k, cells_sl H.h.p, cells_sl H.h.b, pure_sl H.h.k, pure_sl H.h.p, pure_sl H.h.b, Int.toNat_natCast, lenV_sl H.pk, view_sl H.pk, scalar_sl H.pk, cells_sl H.pk, pure_sl H.pk, H.bi.len, H.bi.sc, H.bi.ce, H.bi.pu, H.bi.vw, a1, c2, gUn, decide_true, Bool.true_or, Bool.or_true]
  by_cases c3 : (f.bids.length : Int) > 40
  · simp (disch := first | assumption | omega | (simp only [az]; done)) only [ru, eq_self, if_true, if_false, BEq.rfl, binI, AO.row?, splice, fillL, mmAll, loadV, storeV, zeros, Am.rowAt, Am.part, addOff, Nat.reduceAdd, Nat.reduceMul, Nat.reduceLeDiff, Nat.reduceSub, Nat.reduceLT, Int.reduceEq, Int.reduceLT, Int.reduceLE, Int.reduceGT, Int.reduceGE, Int.reduceAdd, Int.reduceSub, Int.reduceMul, Int.reduceNeg, Int.reduceToNat, reduceCtorEq, reduceIte, lenV_sl H.h.k, lenV_sl H.h.p, lenV_sl H.h.b, elem_kd H.h.k, elem_pr H.h.p, elem_in H.h.b, view_sl H.h.k, view_sl H.h.p, view_sl H.h.b, scalar_sl H.h.k, scalar_sl H.h.p, scalar_sl H.h.b, cells_sl H.h.k, cells_sl H.h.p, cells_sl H.h.b, pure_sl H.h.k, pure_sl H.h.p, pure_sl H.h.b, Int.toNat_natCast, lenV_sl H.pk, view_sl H.pk, scalar_sl H.pk, cells_sl H.pk, pure_sl H.pk, H.bi.len, H.bi.sc, H.bi.ce, H.bi.pu, H.bi.vw, a1, c2, c3, gUn, decide_true, decide_false, Bool.true_or, Bool.or_true]
  simp (disch := first | assumption | omega | (simp only [az]; done)) only [ru, eq_self, if_true, if_false, BEq.rfl, binI, AO.row?, splice, fillL, mmAll, loadV, storeV, zeros, Am.rowAt, Am.part, addOff, Nat.reduceAdd, Nat.reduceMul, Nat.reduceLeDiff, Nat.reduceSub, Nat.reduceLT, Int.reduceEq, Int.reduceLT, Int.reduceLE, Int.reduceGT, Int.reduceGE, Int.reduceAdd, Int.reduceSub, Int.reduceMul, Int.reduceNeg, Int.reduceToNat, reduceCtorEq, reduceIte, lenV_sl H.h.k, lenV_sl H.h.p, lenV_sl H.h.b, elem_kd H.h.k, elem_pr H.h.p, elem_in H.h.b, view_sl H.h.k, view_sl H.h.p, view_sl H.h.b, scalar_sl H.h.k, scalar_sl H.h.p, scalar_sl H.h.b, cells_sl H.h.k, cells_sl H.h.p, cells_sl H.h.b, pure_sl H.h.k, pure_sl H.h.p, pure_sl H.h.b, Int.toNat_natCast, lenV_sl H.pk, view_sl H.pk, scalar_sl H.pk, cells_sl H.pk, pure_sl H.pk, H.bi.len, H.bi.sc, H.bi.ce, H.bi.pu, H.bi.vw, a1, c2, c3, gUn, decide_false, Bool.false_or]
  refine G_loop_ind (fun m ts hh mk => ∃ i : Nat, i ≤ f.bids.length ∧ m = f.bids.length - i ∧ ((List.range i).all fun i => decide ((bAt f.bids i).bs.length ≤ 40)) = true ∧ hh = [.cells [k, I f.h.fl, p, b, pv, I f.d, I f.n, bv] false] ∧ ts.length = 34 ∧ ts.getD 1 .undef = .ptr 0 0 ∧ ts.getD 3 .undef = I i ∧ mk = []) ?_ f.bids.length _ _ _
    ⟨0, Nat.zero_le _, rfl, rfl, rfl, rfl, rfl, rfl, rfl⟩
  rintro m ts hh mk ih ⟨i, hi, rfl, hall, rfl, hl', q1, q3, rfl⟩
  rw [lit_all hl']
  simp only [lit0, litS, Nat.reduceAdd, q1, q3]
  simp (disch := first | assumption | omega | (simp only [az]; done)) only [ru, eq_self, if_true, if_false, BEq.rfl, binI, AO.row?, splice, fillL, mmAll, loadV, storeV, zeros, Am.rowAt, Am.part, addOff, Nat.reduceAdd, Nat.reduceMul, Nat.reduceLeDiff, Nat.reduceSub, Nat.reduceLT, Int.reduceEq, Int.reduceLT, Int.reduceLE, Int.reduceGT, Int.reduceGE, Int.reduceAdd, Int.reduceSub, Int.reduceMul, Int.reduceNeg, Int.reduceToNat, reduceCtorEq, reduceIte, lenV_sl H.h.k, lenV_sl H.h.p, lenV_sl H.h.b, elem_kd H.h.k, elem_pr H.h.p, elem_in H.h.b, view_sl H.h.k, view_sl H.h.p, view_sl H.h.b, scalar_sl H.h.k, scalar_sl H.h.p, scalar_sl H.h.b, cells_sl H.h.k, cells_sl H.h.p, cells_sl H.h.b, pure_sl H.h.k, pure_sl H.h.p, pure_sl H.h.b, Int.toNat_natCast, lenV_sl H.pk, view_sl H.pk, scalar_sl H.pk, cells_sl H.pk, pure_sl H.pk, H.bi.len, H.bi.sc, H.bi.ce, H.bi.pu, H.bi.vw]
  by_cases hlt : (i : Int) < f.bids.length
  case neg =>
    obtain rfl : i = f.bids.length := by omega
    simp (disch := first | assumption | omega | (simp only [az]; done)) only [ru, eq_self, if_true, if_false, BEq.rfl, binI, AO.row?, splice, fillL, mmAll, loadV, storeV, zeros, Am.rowAt, Am.part, addOff, Nat.reduceAdd, Nat.reduceMul, Nat.reduceLeDiff, Nat.reduceSub, Nat.reduceLT, Int.reduceEq, Int.reduceLT, Int.reduceLE, Int.reduceGT, Int.reduceGE, Int.reduceAdd, Int.reduceSub, Int.reduceMul, Int.reduceNeg, Int.reduceToNat, reduceCtorEq, reduceIte, hlt]
    rw [hall]; rfl
  have hi' : i < f.bids.length := by omega
  have no := fun hp => range_not (N := f.bids.length) (p := fun i => decide ((bAt f.bids i).bs.length ≤ 40)) hi' hp
  have nx := fun hp => range_all_succ (p := fun i => decide ((bAt f.bids i).bs.length ≤ 40)) hall hp
  have eb := H.bi.el i (by omega) hlt
  have W := H.bi.iw i hi'
  rw [Int.toNat_natCast] at eb
  by_cases c4 : ((f.bids.getD i default).bs.length : Int) > 40
  · have ev := no (decide_eq_false (by simp only [bAt, Int.toNat_natCast]; omega))
    simp (disch := first | assumption | omega | (simp only [az]; done)) only [ru, eq_self, if_true, if_false, BEq.rfl, binI, AO.row?, splice, fillL, mmAll, loadV, storeV, zeros, Am.rowAt, Am.part, addOff, Nat.reduceAdd, Nat.reduceMul, Nat.reduceLeDiff, Nat.reduceSub, Nat.reduceLT, Int.reduceEq, Int.reduceLT, Int.reduceLE, Int.reduceGT, Int.reduceGE, Int.reduceAdd, Int.reduceSub, Int.reduceMul, Int.reduceNeg, Int.reduceToNat, reduceCtorEq, reduceIte, lenV_sl H.h.k, lenV_sl H.h.p, lenV_sl H.h.b, elem_kd H.h.k, elem_pr H.h.p, elem_in H.h.b, view_sl H.h.k, view_sl H.h.p, view_sl H.h.b, scalar_sl H.h.k, scalar_sl H.h.p, scalar_sl H.h.b, cells_sl H.h.k, cells_sl H.h.p, cells_sl H.h.b, pure_sl H.h.k, pure_sl H.h.p, pure_sl H.h.b, Int.toNat_natCast, lenV_sl H.pk, view_sl H.pk, scalar_sl H.pk, cells_sl H.pk, pure_sl H.pk, H.bi.len, H.bi.sc, H.bi.ce, H.bi.pu, H.bi.vw, lenV_sl W, view_sl W, scalar_sl W, cells_sl W, pure_sl W, hlt, eb, c4, decide_true]
    rw [ev]; rfl
  · simp (disch := first | assumption | omega | (simp only [az]; done)) only [ru, eq_self, if_true, if_false, BEq.rfl, binI, AO.row?, splice, fillL, mmAll, loadV, storeV, zeros, Am.rowAt, Am.part, addOff, Nat.reduceAdd, Nat.reduceMul, Nat.reduceLeDiff, Nat.reduceSub, Nat.reduceLT, Int.reduceEq, Int.reduceLT, Int.reduceLE, Int.reduceGT, Int.reduceGE, Int.reduceAdd, Int.reduceSub, Int.reduceMul, Int.reduceNeg, Int.reduceToNat, reduceCtorEq, reduceIte, lenV_sl H.h.k, lenV_sl H.h.p, lenV_sl H.h.b, elem_kd H.h.k, elem_pr H.h.p, elem_in H.h.b, view_sl H.h.k, view_sl H.h.p, view_sl H.h.b, scalar_sl H.h.k, scalar_sl H.h.p, scalar_sl H.h.b, cells_sl H.h.k, cells_sl H.h.p, cells_sl H.h.b, pure_sl H.h.k, pure_sl H.h.p, pure_sl H.h.b, Int.toNat_natCast, lenV_sl H.pk, view_sl H.pk, scalar_sl H.pk, cells_sl H.pk, pure_sl H.pk, H.bi.len, H.bi.sc, H.bi.ce, H.bi.pu, H.bi.vw, lenV_sl W, view_sl W, scalar_sl W, cells_sl W, pure_sl W, hlt, eb, c4, decide_false]
    exact ih (f.bids.length - (i + 1)) _ _ _ (by omega) ⟨i + 1, by omega, rfl, nx (decide_eq_true (by simp only [bAt, Int.toNat_natCast]; omega)), rfl, rfl, rfl, rfl, rfl⟩
theorem hugeF_ok (H : FsIn f k p b pv bv w) (hh : f.huge = false) : FsOk f k p b pv bv w := by
  simp only [Fs.huge, Bool.or_eq_false_iff, decide_eq_false_iff_not, Bool.not_eq_false', List.all_eq_true, List.mem_range, decide_eq_true_eq] at hh
  exact ⟨H, huge_ok H.h hh.1.1.1, by omega, by omega, fun i hi => by have := hh.2 i hi; simp only [bAt, Int.toNat_natCast] at this; omega⟩
theorem tops_bd (G : FG f) {r : Int → Bool} : 0 ≤ tops f.bids r ∧ tops f.bids r ≤ 396 := by
  have h1 := bsT_bd G.bg (r := r) (pm := fun _ => true)
  have h2 := (bsT_spec (L := f.bids) (p := fun _ => true) (allS r f.bids) fun s hs => (sale_bd G.bg (mem_allS.1 hs)).1).1 [] nil_mem rfl
  simp only [prc, List.map_nil, sm] at h2
  exact ⟨h2, h1.2⟩
end
end Go.Proofs.YtfagcnokdnanpaaGreat.S
/-
Copies of fairs; on another day, with another offer, without a buyer, with another packing.
-/
namespace Go.Proofs.YtfagcnokdnanpaaGreat.S
open Go Go.Am Go.Proofs.YtfagcnokdnanpaaGreat.T
set_option maxRecDepth 100000
set_option linter.unusedSimpArgs false
set_option linter.unusedVariables false
def Bi.e (x : Bi) : List AV := [I x.u, slV 1 intL x.bs, I x.c]
theorem Bi.el (x : Bi) : x.e.length = 3 := rfl
theorem Bi.sc (x : Bi) : x.e.all AV.scalar = true := rfl
def resB (L : List Bi) : AV := if L = [] then .nils else slV 3 Bi.e L
theorem resB_in (L : List Bi) : ∃ w, BsIn L (resB L) w := by
  have h : IsSl 3 Bd.e (L.map fun x => (⟨x, slV 1 intL x.bs, slV_is⟩ : Bd)) (resB L) := by
    unfold resB
    split
    · rename_i e; subst e; exact .inr ⟨rfl, rfl⟩
    · refine .inl ?_
      simp only [slV, List.length_map]
      congr 1
      rw [List.flatMap_map]; rfl
  have := BsIn.of h
  rw [List.map_map] at this
  have e : (List.map (Bd.b ∘ fun x => (⟨x, slV 1 intL x.bs, slV_is⟩ : Bd)) L) = L := by
    conv => rhs; rw [← List.map_id L]
    rfl
  rw [e] at this
  exact ⟨_, this⟩
theorem outB_view {b : Nat} {g : List AO} {v : AV} {L : List Bi} (H : OutE Bi.e 3 b g v L) {n : Nat} : Am.view false g (n + 1) v = some (resB L) := by
  unfold resB
  rcases H with ⟨rfl, rfl⟩ | ⟨hne, o, ho, rfl, hc⟩
  · rw [if_pos rfl]; exact view_nils
  · rw [if_neg hne]
    have hr : Am.rowOf g (.ms 3 o 0 L.length) = some (L.flatMap Bi.e) := by
      simp only [Am.rowOf, Am.rowAt, hc, Option.bind_some, AO.row?, List.drop_zero]
      rw [flat_take Bi.el, if_pos (flat_len Bi.el L)]
    have hm : (L.flatMap Bi.e).mapM (view false g n) = some (L.flatMap Bi.e) := mapM_view fun x hx => by
      obtain ⟨y, _, hy⟩ := List.mem_flatMap.1 hx
      simp only [Bi.e, List.mem_cons, List.not_mem_nil, or_false] at hy
      rcases hy with rfl | rfl | rfl
      · exact view_int
      · exact view_cs
      · exact view_int
    simp only [Am.view, hr, hm]; rfl
theorem outE_apG {α : Type} {enc : α → List AV} {esz eb : Nat} (he : ∀ a, (enc a).length = esz) (hs : ∀ a, (enc a).all AV.scalar = true) (heb : 1 ≤ eb) (hb : eb ≤ 1000) {b p : Nat} {h : List AO} {v : AV} {l : List α} {lim : Nat} (H : OutE enc esz b h v l) (hp : h[p]? = some .tomb) (hbp : b ≤ p) (hlim : lim ≤ b) (hl : l.length ≤ 1000000) (x : α) :
    ∃ h', appG false lim p esz eb h v (.cs esz 1 (enc x)) = some (.ms esz p 0 (l.length + 1), h') ∧ h'.length = h.length ∧ h'[p]? = some (.cells ((l ++ [x]).flatMap enc) false) ∧ ∀ j, j < b → h'[j]? = h[j]? := by
  have pl := (List.getElem?_eq_some_iff.1 hp).1
  have hx : (enc x).length = 1 * esz := by rw [he]; omega
  rcases H with ⟨rfl, rfl⟩ | ⟨hne, o, ho, rfl, hc⟩
  · refine ⟨h.set p (.cells (enc x) false), appG_nil (n := 1) (by omega) rfl rfl hx (hs x) (by omega) heb, by simp, ?_, fun j hj => by rw [List.getElem?_set_ne (by omega)]⟩
    rw [List.getElem?_set_self pl]; simp
  · refine ⟨_, appG_ms (n := 1) (by omega) hc (by rw [flat_len he]) rfl rfl hx (hs x) ?_ heb (by omega), by simp, ?_, fun j hj => by rw [List.getElem?_set_ne (by omega), List.getElem?_set_ne (by omega)]⟩
    · have : (l.length + 1) * eb ≤ 1000001 * 1000 := Nat.mul_le_mul (by omega) hb
      omega
    · rw [List.getElem?_set_self (by simpa using pl)]
      simp [List.flatMap_append]
set_option maxHeartbeats 1000000 in
theorem t34 {x : Bi} {v : AV} (V : IsSl 1 intL x.bs v) (hl : x.bs.length ≤ 41) (st : Bool) : Iso E 34 [.agg [I x.u, v, I x.c]] st = some (.agg [I x.u, slV 1 intL x.bs, I x.c]) := by
  obtain ⟨q, x0, x1, hq, A, hx⟩ := cpyQ (eb := 8) (lim := 0) (h := [.cells [I x.u, v, I x.c] false, .cells [I 0, .nils, I 0] false]) (J := []) V intE intSc (by omega) (by omega) (Nat.zero_le _)
  simp only [List.length_cons, List.length_nil, Nat.zero_add, Nat.reduceAdd, apC, apN] at A
  have hr : ∃ r h', R E (.fn 34) [.agg [I x.u, v, I x.c]] [] 0 = some (r, h') ∧ (r = .agg [I x.u, .ms 1 (2 + q) 0 x.bs.length, I x.c] ∧ h'[2 + q]? = some (.cells (x.bs.flatMap intL) false)) := by
    refine R_of (fun r h' => r = .agg [I x.u, .ms 1 (2 + q) 0 x.bs.length, I x.c] ∧ h'[2 + q]? = some (.cells (x.bs.flatMap intL) false)) (es _ _ _ _) e34 ?_
    simp only [f34]
    simp (disch := first | assumption | omega | (simp only [az]; done)) only [ru, eq_self, if_true, if_false, BEq.rfl, binI, AO.row?, splice, fillL, mmAll, loadV, storeV, zeros, Am.rowAt, Am.part, addOff, Nat.reduceAdd, Nat.reduceMul, Nat.reduceLeDiff, Nat.reduceSub, Nat.reduceLT, Int.reduceEq, Int.reduceLT, Int.reduceLE, Int.reduceGT, Int.reduceGE, Int.reduceAdd, Int.reduceSub, Int.reduceMul, Int.reduceNeg, Int.reduceToNat, reduceCtorEq, reduceIte, lenV_sl V, view_sl V, scalar_sl V, cells_sl V, pure_sl V, GO_mapp, unhN, unhC, A, finC, getRes, Option.some.injEq, exists_eq_left']
    match q, hq with
    | 0, _ => simpa using hx
    | 1, _ => simpa using hx
  obtain ⟨r, h', hr, rfl, hc⟩ := hr
  have hv := viewB hc (st := st) (n := 6)
  simp only [Iso, hr]
  show ([I x.u, .ms 1 (2 + q) 0 x.bs.length, I x.c].mapM (Am.view st h' 7)).map AV.agg = _
  simp only [List.mapM_cons, List.mapM_nil, view_int, hv]; rfl
section
variable {f : Fs} {k p b pv bv : AV} {w : Nat → AV}
abbrev hsK (f : Fs) : AV := slV 2 Kd.e f.h.ks
abbrev hsP (f : Fs) : AV := slV 2 Pr.e f.h.ps
abbrev hsB (f : Fs) : AV := slV 1 intL f.h.bs
abbrev cpF (f : Fs) : AV := frV f (hsK f) (hsP f) (hsB f) (slV 1 intL f.pk) (resB f.bids)
theorem cpF_in (f : Fs) : ∃ w, FsIn f (hsK f) (hsP f) (hsB f) (slV 1 intL f.pk) (resB f.bids) w := by
  obtain ⟨w, h⟩ := resB_in f.bids
  exact ⟨w, ⟨⟨slV_is, slV_is, slV_is⟩, slV_is, h⟩⟩
theorem cpF_ok (H : FsOk f k p b pv bv w) : ∃ w, FsOk f (hsK f) (hsP f) (hsB f) (slV 1 intL f.pk) (resB f.bids) w := by
  obtain ⟨w', h⟩ := cpF_in f
  exact ⟨w', h, ⟨h.h, H.ho.nk, H.ho.np, H.ho.nb⟩, H.np, H.nb, H.nw⟩
set_option maxHeartbeats 4000000 in
theorem r33 (H : FsOk f k p b pv bv w) : ∃ J op o, R E (.fn 33) [frV f k p b pv bv] [] 0 = some (.agg [hsK f, I f.h.fl, hsP f, hsB f, .ms 1 op 0 f.pk.length, I f.d, I f.n, o], J) ∧ 5 ≤ J.length ∧ J[op]? = some (.cells (f.pk.flatMap intL) false) ∧ op < 5 ∧ OutE Bi.e 3 5 J o f.bids := by
  have np := H.np; have nb := H.nb
  have ah := fun st => s17 H.ho st
  simp only [hsV, cpV] at ah
  obtain ⟨q, x0, x1, hq, A, hx⟩ := cpyQ (eb := 8) (lim := 0) (h := [.cells [k, I f.h.fl, p, b, pv, I f.d, I f.n, bv] false, .cells [.nils, I 0, .nils, .nils, .nils, I 0, I 0, .nils] false]) (J := [.tomb]) H.pk intE intSc (by omega) (by omega) (Nat.zero_le _)
  simp only [List.length_cons, List.length_nil, Nat.zero_add, Nat.reduceAdd, apC, apN] at A
  refine (fun x => ?_ : (∃ r J, R E (.fn 33) [frV f k p b pv bv] [] 0 = some (r, J) ∧ ∃ o, r = .agg [hsK f, I f.h.fl, hsP f, hsB f, .ms 1 (2 + q) 0 f.pk.length, I f.d, I f.n, o] ∧ 5 ≤ J.length ∧ J[2 + q]? = some (.cells (f.pk.flatMap intL) false) ∧ OutE Bi.e 3 5 J o f.bids) → _) (R_of _ (es _ _ _ _) e33 ?_)
  · obtain ⟨r, J, hr, o, rfl, h0, h1, h2⟩ := x; exact ⟨J, 2 + q, o, hr, h0, h1, by omega, h2⟩
  simp only [f33, frV]
  have sk : IsSl 2 Kd.e f.h.ks (slV 2 Kd.e f.h.ks) := slV_is
  have sp : IsSl 2 Pr.e f.h.ps (slV 2 Pr.e f.h.ps) := slV_is
  have sb : IsSl 1 intL f.h.bs (slV 1 intL f.h.bs) := slV_is
  have hx2 : ([.cells [k, I f.h.fl, p, b, pv, I f.d, I f.n, bv] false, .cells [.nils, I 0, .nils, .nils, .nils, I 0, I 0, .nils] false, x0, x1, .cells [hsK f, I f.h.fl, hsP f, hsB f, .ms 1 (2 + q) 0 f.pk.length, I f.d, I f.n, .nils] false] : List AO)[2 + q]? = some (.cells (f.pk.flatMap intL) false) := by
    match q, hq with
    | 0, _ => simpa using hx
    | 1, _ => simpa using hx
  simp (disch := first | assumption | omega | (simp only [az]; done)) only [ru, eq_self, if_true, if_false, BEq.rfl, binI, AO.row?, splice, fillL, mmAll, loadV, storeV, zeros, Am.rowAt, Am.part, addOff, Nat.reduceAdd, Nat.reduceMul, Nat.reduceLeDiff, Nat.reduceSub, Nat.reduceLT, Int.reduceEq, Int.reduceLT, Int.reduceLE, Int.reduceGT, Int.reduceGE, Int.reduceAdd, Int.reduceSub, Int.reduceMul, Int.reduceNeg, Int.reduceToNat, reduceCtorEq, reduceIte, lenV_sl H.h.k, lenV_sl H.h.p, lenV_sl H.h.b, elem_kd H.h.k, elem_pr H.h.p, elem_in H.h.b, view_sl H.h.k, view_sl H.h.p, view_sl H.h.b, scalar_sl H.h.k, scalar_sl H.h.p, scalar_sl H.h.b, cells_sl H.h.k, cells_sl H.h.p, cells_sl H.h.b, pure_sl H.h.k, pure_sl H.h.p, pure_sl H.h.b, Int.toNat_natCast, lenV_sl H.pk, view_sl H.pk, scalar_sl H.pk, cells_sl H.pk, pure_sl H.pk, H.bi.len, H.bi.sc, H.bi.ce, H.bi.pu, H.bi.vw, lenV_sl sk, view_sl sk, scalar_sl sk, cells_sl sk, pure_sl sk, lenV_sl sp, view_sl sp, scalar_sl sp, cells_sl sp, pure_sl sp, lenV_sl sb, view_sl sb, scalar_sl sb, cells_sl sb, pure_sl sb, Bool.and_self, GO_mapp, GO_mcall1, hide, unhN, unhC, A, ah]
  refine G_loop_ind (fun m ts hk mk => ∃ (i : Nat) (o : AV), i ≤ f.bids.length ∧ m = f.bids.length - i ∧ hk[0]? = some (.cells [k, I f.h.fl, p, b, pv, I f.d, I f.n, bv] false) ∧ hk[1]? = some (.cells [.nils, I 0, .nils, .nils, .nils, I 0, I 0, .nils] false) ∧ hk[2 + q]? = some (.cells (f.pk.flatMap intL) false) ∧ hk[4]? = some (.cells [hsK f, I f.h.fl, hsP f, hsB f, .ms 1 (2 + q) 0 f.pk.length, I f.d, I f.n, o] false) ∧ OutE Bi.e 3 5 hk o (f.bids.take i) ∧ 5 ≤ hk.length ∧
      ts.length = 36 ∧ ts.getD 1 .undef = .ptr 0 0 ∧ ts.getD 2 .undef = .ptr 1 0 ∧ ts.getD 3 .undef = .ptr 4 0 ∧ ts.getD 4 .undef = I i ∧ mk = []) ?_ f.bids.length _ _ _
    ⟨0, .nils, Nat.zero_le _, rfl, rfl, rfl, hx2, rfl, .inl ⟨rfl, rfl⟩, by simp, rfl, rfl, rfl, rfl, rfl, rfl⟩
  rintro m ts hk mk ih ⟨i, o, hi, rfl, c0, c1, cq, c4, ho, hle, hl', q1, q2, q3, q4, rfl⟩
  rw [lit_all hl']
  simp only [lit0, litS, Nat.reduceAdd, q1, q2, q3, q4]
  simp (disch := first | assumption | omega | (simp only [az]; done)) only [ru, eq_self, if_true, if_false, BEq.rfl, binI, AO.row?, splice, fillL, mmAll, loadV, storeV, zeros, Am.rowAt, Am.part, addOff, Nat.reduceAdd, Nat.reduceMul, Nat.reduceLeDiff, Nat.reduceSub, Nat.reduceLT, Int.reduceEq, Int.reduceLT, Int.reduceLE, Int.reduceGT, Int.reduceGE, Int.reduceAdd, Int.reduceSub, Int.reduceMul, Int.reduceNeg, Int.reduceToNat, reduceCtorEq, reduceIte, lenV_sl H.h.k, lenV_sl H.h.p, lenV_sl H.h.b, elem_kd H.h.k, elem_pr H.h.p, elem_in H.h.b, view_sl H.h.k, view_sl H.h.p, view_sl H.h.b, scalar_sl H.h.k, scalar_sl H.h.p, scalar_sl H.h.b, cells_sl H.h.k, cells_sl H.h.p, cells_sl H.h.b, pure_sl H.h.k, pure_sl H.h.p, pure_sl H.h.b, Int.toNat_natCast, lenV_sl H.pk, view_sl H.pk, scalar_sl H.pk, cells_sl H.pk, pure_sl H.pk, H.bi.len, H.bi.sc, H.bi.ce, H.bi.pu, H.bi.vw, c0]
  have hsc : o.scalar = true ∧ o.cells = [o] := by
    rcases ho with ⟨_, rfl⟩ | ⟨_, _, _, rfl, _⟩ <;> exact ⟨rfl, rfl⟩
  by_cases hlt : (i : Int) < f.bids.length
  case neg =>
    obtain rfl : i = f.bids.length := by omega
    rw [List.take_length] at ho
    have l1 := (List.getElem?_eq_some_iff.1 c1).1
    simp (disch := first | assumption | omega | (simp only [az]; done)) only [ru, eq_self, if_true, if_false, BEq.rfl, binI, AO.row?, splice, fillL, mmAll, loadV, storeV, zeros, Am.rowAt, Am.part, addOff, Nat.reduceAdd, Nat.reduceMul, Nat.reduceLeDiff, Nat.reduceSub, Nat.reduceLT, Int.reduceEq, Int.reduceLT, Int.reduceLE, Int.reduceGT, Int.reduceGE, Int.reduceAdd, Int.reduceSub, Int.reduceMul, Int.reduceNeg, Int.reduceToNat, reduceCtorEq, reduceIte, hlt, c1, c4, lenV_sl sk, view_sl sk, scalar_sl sk, cells_sl sk, pure_sl sk, lenV_sl sp, view_sl sp, scalar_sl sp, cells_sl sp, pure_sl sp, lenV_sl sb, view_sl sb, scalar_sl sb, cells_sl sb, pure_sl sb, hsc.1, hsc.2, Bool.and_self, finC, getRes, set_at c1, Option.some.injEq, exists_eq_left']
    refine ⟨o, rfl, by simp; omega, by rw [List.getElem?_set_ne (by omega)]; exact cq, ?_⟩
    rcases ho with ⟨h1, h2⟩ | ⟨h1, oo, h2, h3, h4⟩
    · exact .inl ⟨h1, h2⟩
    · exact .inr ⟨h1, oo, h2, h3, by rw [List.getElem?_set_ne (by omega)]; exact h4⟩
  have hi' : i < f.bids.length := by omega
  have eb := H.bi.el i (by omega) hlt
  obtain ⟨W, lW⟩ := bAt_w H (i := (i : Int)) (by omega) hlt
  have tk := take_snoc (d := default) hi'
  have ex : bAt f.bids i = f.bids.getD i default := by simp [bAt]
  rw [Int.toNat_natCast] at eb W
  rw [← ex] at tk
  obtain ⟨x, hx⟩ : ∃ x, x = bAt f.bids i := ⟨_, rfl⟩
  rw [← hx] at eb W lW tk
  have a3 := fun st => t34 W lW st
  have ho' : OutE Bi.e 3 5 (hk ++ [.tomb]) o (f.bids.take i) := ho.fr (Fr.app hk _)
  obtain ⟨h', A2, l2, hp, k2⟩ := outE_apG (eb := 40) (p := hk.length) (lim := 0) Bi.el Bi.sc (by omega) (by omega) ho' (by simp) hle (by omega) (by rw [List.length_take]; omega) x
  have tl : (f.bids.take i).length = i := by rw [List.length_take]; omega
  rw [tl] at A2
  simp only [Bi.e] at A2
  have m0 : 0 < hk.length := by omega
  have m4 : 4 < hk.length := by omega
  have d4 : h'[4]? = some (.cells [hsK f, I f.h.fl, hsP f, hsB f, .ms 1 (2 + q) 0 f.pk.length, I f.d, I f.n, o] false) := by rw [k2 _ (by omega), at_ap m4]; exact c4
  have sx : IsSl 1 intL x.bs (slV 1 intL x.bs) := slV_is
  simp (disch := first | assumption | omega | (simp only [az]; done)) only [ru, eq_self, if_true, if_false, BEq.rfl, binI, AO.row?, splice, fillL, mmAll, loadV, storeV, zeros, Am.rowAt, Am.part, addOff, Nat.reduceAdd, Nat.reduceMul, Nat.reduceLeDiff, Nat.reduceSub, Nat.reduceLT, Int.reduceEq, Int.reduceLT, Int.reduceLE, Int.reduceGT, Int.reduceGE, Int.reduceAdd, Int.reduceSub, Int.reduceMul, Int.reduceNeg, Int.reduceToNat, reduceCtorEq, reduceIte, lenV_sl H.h.k, lenV_sl H.h.p, lenV_sl H.h.b, elem_kd H.h.k, elem_pr H.h.p, elem_in H.h.b, view_sl H.h.k, view_sl H.h.p, view_sl H.h.b, scalar_sl H.h.k, scalar_sl H.h.p, scalar_sl H.h.b, cells_sl H.h.k, cells_sl H.h.p, cells_sl H.h.b, pure_sl H.h.k, pure_sl H.h.p, pure_sl H.h.b, Int.toNat_natCast, lenV_sl H.pk, view_sl H.pk, scalar_sl H.pk, cells_sl H.pk, pure_sl H.pk, H.bi.len, H.bi.sc, H.bi.ce, H.bi.pu, H.bi.vw, lenV_sl W, view_sl W, scalar_sl W, cells_sl W, pure_sl W, lenV_sl sx, view_sl sx, scalar_sl sx, cells_sl sx, pure_sl sx, hlt, GO_mapp, GO_mcall1, hide, unhN, unhC, at_ap m0, at_ap m4, c0, c4, setE, eb, a3, exOp_litS, AV.pureV.go, AV.pureV, Bool.and_true, A2, d4]
  refine ih (f.bids.length - (i + 1)) _ _ _ (by omega) ⟨i + 1, .ms 3 hk.length 0 (i + 1), by omega, rfl, ?_, ?_, ?_, ?_, ?_, by simp [l2]; omega, rfl, rfl, rfl, rfl, rfl, rfl⟩
  · rw [List.getElem?_set_ne (by omega), k2 _ (by omega), at_ap m0]; exact c0
  · rw [List.getElem?_set_ne (by omega), k2 _ (by omega), at_ap (by omega)]; exact c1
  · rw [List.getElem?_set_ne (by omega), k2 _ (by omega), at_ap (by omega)]; exact cq
  · rw [set_at d4]
  · refine .inr ⟨by rw [tk]; simp, hk.length, by omega, ?_, ?_⟩
    · rw [tk, List.length_append, tl]; rfl
    · rw [List.getElem?_set_ne (by omega), hp, tk]
theorem t33 (H : FsOk f k p b pv bv w) : Iso E 33 [frV f k p b pv bv] false = some (cpF f) := by
  obtain ⟨J, op, o, hr, _, hp, _, ho⟩ := r33 H
  have h1 := viewB hp (st := false) (n := 6)
  have h2 := outB_view ho (n := 6)
  simp only [Iso, hr]
  show ([hsK f, I f.h.fl, hsP f, hsB f, .ms 1 op 0 f.pk.length, I f.d, I f.n, o].mapM (Am.view false J 7)).map AV.agg = _
  simp only [List.mapM_cons, List.mapM_nil, view_int, slV, view_cs, h2]
  simp only [slV] at h1
  simp only [h1]; rfl
end
end Go.Proofs.YtfagcnokdnanpaaGreat.S
/-
Fairs on another day, with another offer, without a buyer.
-/
namespace Go.Proofs.YtfagcnokdnanpaaGreat.S
open Go Go.Am Go.Proofs.YtfagcnokdnanpaaGreat.T
set_option maxRecDepth 100000
set_option linter.unusedSimpArgs false
set_option linter.unusedVariables false
theorem biE_shift (L : List Bi) (n : Nat) : (L.flatMap Bi.e).map (AV.shift n) = L.flatMap Bi.e := by
  induction L with
  | nil => rfl
  | cons a l ih => simp only [List.flatMap_cons, List.map_append, ih]; rfl
theorem OutE.shift {J g : List AO} {o : AV} {L : List Bi} (h : OutE Bi.e 3 5 J o L) : OutE Bi.e 3 (g.length + 5) (g ++ J.map (AO.shift g.length)) (o.shift g.length) L := by
  rcases h with ⟨rfl, rfl⟩ | ⟨hne, oo, ho, rfl, hc⟩
  · exact .inl ⟨rfl, rfl⟩
  · refine .inr ⟨hne, oo + g.length, by omega, rfl, ?_⟩
    rw [List.getElem?_append_right (by omega), Nat.add_sub_cancel, List.getElem?_map, hc]
    simp only [Option.map_some, AO.shift, biE_shift]
def Fs.off (f : Fs) (c p : Int) : Fs := { f with bids := f.bids.set c.toNat { bAt f.bids c with c := p } }
def Fs.wo (f : Fs) (u : Int) : Fs := { f with bids := f.bids.filter fun x => decide (x.u ≠ u) }
section
variable {f : Fs} {k p b pv bv : AV} {w : Nat → AV}
set_option maxHeartbeats 1000000 in
theorem t93 (H : FsOk f k p b pv bv w) (d : Int) : Iso E 93 [frV f k p b pv bv, I d] false = some (cpF (f.on f.pk d)) := by
  have a := t33 H
  obtain ⟨w', cin⟩ := cpF_in f
  simp only [frV] at a
  refine Iso_of (es _ _ _ _) e93 ?_
  simp only [f93]
  simp (disch := first | assumption | omega | (simp only [az]; done)) only [ru, eq_self, if_true, if_false, BEq.rfl, binI, AO.row?, splice, fillL, mmAll, loadV, storeV, zeros, Am.rowAt, Am.part, addOff, Nat.reduceAdd, Nat.reduceMul, Nat.reduceLeDiff, Nat.reduceSub, Nat.reduceLT, Int.reduceEq, Int.reduceLT, Int.reduceLE, Int.reduceGT, Int.reduceGE, Int.reduceAdd, Int.reduceSub, Int.reduceMul, Int.reduceNeg, Int.reduceToNat, reduceCtorEq, reduceIte, lenV_sl H.h.k, lenV_sl H.h.p, lenV_sl H.h.b, elem_kd H.h.k, elem_pr H.h.p, elem_in H.h.b, view_sl H.h.k, view_sl H.h.p, view_sl H.h.b, scalar_sl H.h.k, scalar_sl H.h.p, scalar_sl H.h.b, cells_sl H.h.k, cells_sl H.h.p, cells_sl H.h.b, pure_sl H.h.k, pure_sl H.h.p, pure_sl H.h.b, Int.toNat_natCast, lenV_sl H.pk, view_sl H.pk, scalar_sl H.pk, cells_sl H.pk, pure_sl H.pk, H.bi.len, H.bi.sc, H.bi.ce, H.bi.pu, H.bi.vw, lenV_sl cin.h.k, lenV_sl cin.h.p, lenV_sl cin.h.b, elem_kd cin.h.k, elem_pr cin.h.p, elem_in cin.h.b, view_sl cin.h.k, view_sl cin.h.p, view_sl cin.h.b, scalar_sl cin.h.k, scalar_sl cin.h.p, scalar_sl cin.h.b, cells_sl cin.h.k, cells_sl cin.h.p, cells_sl cin.h.b, pure_sl cin.h.k, pure_sl cin.h.p, pure_sl cin.h.b, Int.toNat_natCast, lenV_sl cin.pk, view_sl cin.pk, scalar_sl cin.pk, cells_sl cin.pk, pure_sl cin.pk, cin.bi.len, cin.bi.sc, cin.bi.ce, cin.bi.pu, cin.bi.vw, a, finC, getRes, Option.some.injEq, exists_eq_left']
  rfl
end
end Go.Proofs.YtfagcnokdnanpaaGreat.S
/-
Fairs without a buyer.
-/
namespace Go.Proofs.YtfagcnokdnanpaaGreat.S
open Go Go.Am Go.Proofs.YtfagcnokdnanpaaGreat.T
set_option maxRecDepth 100000
set_option linter.unusedSimpArgs false
set_option linter.unusedVariables false
def othS (L : List Bi) (u : Int) (n : Nat) : List Nat := (List.range n).filter fun (j : Nat) => decide ((bAt L j).u ≠ u)
theorem othS_succ {L : List Bi} {u : Int} {n : Nat} : othS L u (n + 1) = othS L u n ++ (if (bAt L n).u ≠ u then [n] else []) := by
  simp only [othS, List.range_succ, List.filter_append]
  by_cases h : (bAt L n).u ≠ u
  · rw [if_pos h, List.filter_cons_of_pos (by simpa using h)]; rfl
  · rw [if_neg h, List.filter_cons_of_neg (by simpa using h)]; rfl
theorem othS_len {L : List Bi} {u : Int} {n : Nat} : (othS L u n).length ≤ n := by
  have := List.length_filter_le (fun (j : Nat) => decide ((bAt L j).u ≠ u)) (List.range n)
  simpa [othS] using this
theorem othS_map {L : List Bi} {u : Int} : ∀ n : Nat, n ≤ L.length → (othS L u n).map (fun (j : Nat) => bAt L j) = (L.take n).filter fun x => decide (x.u ≠ u)
  | 0, _ => by simp [othS]
  | n + 1, h => by
    have ex : bAt L n = L.getD n default := by simp [bAt]
    rw [othS_succ, List.map_append, othS_map n (by omega), take_snoc (d := default) (by omega), List.filter_append, ← ex]
    congr 1
    by_cases h : (bAt L n).u ≠ u
    · rw [if_pos h, List.filter_cons_of_pos (by simpa using h)]; rfl
    · rw [if_neg h, List.filter_cons_of_neg (by simpa using h)]; rfl
section
variable {f : Fs} {k p b pv bv : AV} {w : Nat → AV}
def ww (f : Fs) (w : Nat → AV) (j : Nat) : AV := if j < f.bids.length then w j else .nils
theorem ww_is (H : FsOk f k p b pv bv w) (j : Nat) : IsSl 1 intL (bAt f.bids j).bs (ww f w j) := by
  unfold ww
  split
  · rename_i h
    have := H.bi.iw j h
    simpa [bAt] using this
  · rename_i h
    have : bAt f.bids j = default := by simp only [bAt, Int.toNat_natCast]; rw [List.getD_eq_getElem?_getD, List.getElem?_eq_none (by omega)]; rfl
    rw [this]; exact .inr ⟨rfl, rfl⟩
def enB (f : Fs) (w : Nat → AV) (j : Nat) : List AV := [I (bAt f.bids j).u, ww f w j, I (bAt f.bids j).c]
set_option maxHeartbeats 2000000 in
theorem t36 (H : FsOk f k p b pv bv w) (u : Int) : ∃ bv' w', Iso E 36 [frV f k p b pv bv, I u] false = some (frV (f.wo u) (hsK f) (hsP f) (hsB f) (slV 1 intL f.pk) bv') ∧ BsIn (f.wo u).bids bv' w' := by
  have nb := H.nb
  have a := t33 H
  obtain ⟨w0, cin⟩ := cpF_in f
  have he : ∀ j, (enB f w j).length = 3 := fun j => rfl
  have hs : ∀ j, (enB f w j).all AV.scalar = true := fun j => by
    have := scalar_sl (ww_is H j)
    simp only [enB, List.all_cons, List.all_nil, this, Bool.and_true]; rfl
  simp only [frV] at a
  have key : ∃ r h', R E (.fn 36) [frV f k p b pv bv, I u] [] 0 = some (r, h') ∧ ∃ o, r = .agg [hsK f, I f.h.fl, hsP f, hsB f, slV 1 intL f.pk, I f.d, I f.n, o] ∧ OutE (enB f w) 3 3 h' o (othS f.bids u f.bids.length) := by
    refine R_of (fun r h' => ∃ o, r = .agg [hsK f, I f.h.fl, hsP f, hsB f, slV 1 intL f.pk, I f.d, I f.n, o] ∧ OutE (enB f w) 3 3 h' o (othS f.bids u f.bids.length)) (es _ _ _ _) e36 ?_
    simp only [f36]
    simp (disch := first | assumption | omega | (simp only [az]; done)) only [ru, eq_self, if_true, if_false, BEq.rfl, binI, AO.row?, splice, fillL, mmAll, loadV, storeV, zeros, Am.rowAt, Am.part, addOff, Nat.reduceAdd, Nat.reduceMul, Nat.reduceLeDiff, Nat.reduceSub, Nat.reduceLT, Int.reduceEq, Int.reduceLT, Int.reduceLE, Int.reduceGT, Int.reduceGE, Int.reduceAdd, Int.reduceSub, Int.reduceMul, Int.reduceNeg, Int.reduceToNat, reduceCtorEq, reduceIte, lenV_sl H.h.k, lenV_sl H.h.p, lenV_sl H.h.b, elem_kd H.h.k, elem_pr H.h.p, elem_in H.h.b, view_sl H.h.k, view_sl H.h.p, view_sl H.h.b, scalar_sl H.h.k, scalar_sl H.h.p, scalar_sl H.h.b, cells_sl H.h.k, cells_sl H.h.p, cells_sl H.h.b, pure_sl H.h.k, pure_sl H.h.p, pure_sl H.h.b, Int.toNat_natCast, lenV_sl H.pk, view_sl H.pk, scalar_sl H.pk, cells_sl H.pk, pure_sl H.pk, H.bi.len, H.bi.sc, H.bi.ce, H.bi.pu, H.bi.vw, lenV_sl cin.h.k, lenV_sl cin.h.p, lenV_sl cin.h.b, elem_kd cin.h.k, elem_pr cin.h.p, elem_in cin.h.b, view_sl cin.h.k, view_sl cin.h.p, view_sl cin.h.b, scalar_sl cin.h.k, scalar_sl cin.h.p, scalar_sl cin.h.b, cells_sl cin.h.k, cells_sl cin.h.p, cells_sl cin.h.b, pure_sl cin.h.k, pure_sl cin.h.p, pure_sl cin.h.b, Int.toNat_natCast, lenV_sl cin.pk, view_sl cin.pk, scalar_sl cin.pk, cells_sl cin.pk, pure_sl cin.pk, cin.bi.len, cin.bi.sc, cin.bi.ce, cin.bi.pu, cin.bi.vw, a, Nat.zero_le]
    refine G_loop_ind (fun m ts hk mk => ∃ (i : Nat) (o : AV), i ≤ f.bids.length ∧ m = f.bids.length - i ∧ hk[0]? = some (.cells [k, I f.h.fl, p, b, pv, I f.d, I f.n, bv] false) ∧ hk[1]? = some (.cells [.nils, I 0, .nils, .nils, .nils, I 0, I 0, .nils] false) ∧ hk[2]? = some (.cells [hsK f, I f.h.fl, hsP f, hsB f, slV 1 intL f.pk, I f.d, I f.n, o] false) ∧ OutE (enB f w) 3 3 hk o (othS f.bids u i) ∧ 3 ≤ hk.length ∧
        ts.length = 36 ∧ ts.getD 1 .undef = I u ∧ ts.getD 2 .undef = .ptr 0 0 ∧ ts.getD 4 .undef = .ptr 1 0 ∧ ts.getD 5 .undef = .ptr 2 0 ∧ ts.getD 6 .undef = I i ∧ mk = []) ?_ f.bids.length _ _ _
      ⟨0, .nils, Nat.zero_le _, rfl, rfl, rfl, rfl, .inl ⟨rfl, rfl⟩, by simp, rfl, rfl, rfl, rfl, rfl, rfl, rfl⟩
    rintro m ts hk mk ih ⟨i, o, hi, rfl, c0, c1, c2, ho, hle, hl', q1, q2, q4, q5, q6, rfl⟩
    rw [lit_all hl']
    simp only [lit0, litS, Nat.reduceAdd, q1, q2, q4, q5, q6]
    simp (disch := first | assumption | omega | (simp only [az]; done)) only [ru, eq_self, if_true, if_false, BEq.rfl, binI, AO.row?, splice, fillL, mmAll, loadV, storeV, zeros, Am.rowAt, Am.part, addOff, Nat.reduceAdd, Nat.reduceMul, Nat.reduceLeDiff, Nat.reduceSub, Nat.reduceLT, Int.reduceEq, Int.reduceLT, Int.reduceLE, Int.reduceGT, Int.reduceGE, Int.reduceAdd, Int.reduceSub, Int.reduceMul, Int.reduceNeg, Int.reduceToNat, reduceCtorEq, reduceIte, lenV_sl H.h.k, lenV_sl H.h.p, lenV_sl H.h.b, elem_kd H.h.k, elem_pr H.h.p, elem_in H.h.b, view_sl H.h.k, view_sl H.h.p, view_sl H.h.b, scalar_sl H.h.k, scalar_sl H.h.p, scalar_sl H.h.b, cells_sl H.h.k, cells_sl H.h.p, cells_sl H.h.b, pure_sl H.h.k, pure_sl H.h.p, pure_sl H.h.b, Int.toNat_natCast, lenV_sl H.pk, view_sl H.pk, scalar_sl H.pk, cells_sl H.pk, pure_sl H.pk, H.bi.len, H.bi.sc, H.bi.ce, H.bi.pu, H.bi.vw, c0]
    have hsc : o.scalar = true ∧ o.cells = [o] := by
      rcases ho with ⟨_, rfl⟩ | ⟨_, _, _, rfl, _⟩ <;> exact ⟨rfl, rfl⟩
    by_cases hlt : (i : Int) < f.bids.length
    case neg =>
      obtain rfl : i = f.bids.length := by omega
      simp (disch := first | assumption | omega | (simp only [az]; done)) only [ru, eq_self, if_true, if_false, BEq.rfl, binI, AO.row?, splice, fillL, mmAll, loadV, storeV, zeros, Am.rowAt, Am.part, addOff, Nat.reduceAdd, Nat.reduceMul, Nat.reduceLeDiff, Nat.reduceSub, Nat.reduceLT, Int.reduceEq, Int.reduceLT, Int.reduceLE, Int.reduceGT, Int.reduceGE, Int.reduceAdd, Int.reduceSub, Int.reduceMul, Int.reduceNeg, Int.reduceToNat, reduceCtorEq, reduceIte, hlt, c1, c2, lenV_sl cin.h.k, lenV_sl cin.h.p, lenV_sl cin.h.b, elem_kd cin.h.k, elem_pr cin.h.p, elem_in cin.h.b, view_sl cin.h.k, view_sl cin.h.p, view_sl cin.h.b, scalar_sl cin.h.k, scalar_sl cin.h.p, scalar_sl cin.h.b, cells_sl cin.h.k, cells_sl cin.h.p, cells_sl cin.h.b, pure_sl cin.h.k, pure_sl cin.h.p, pure_sl cin.h.b, Int.toNat_natCast, lenV_sl cin.pk, view_sl cin.pk, scalar_sl cin.pk, cells_sl cin.pk, pure_sl cin.pk, cin.bi.len, cin.bi.sc, cin.bi.ce, cin.bi.pu, cin.bi.vw, hsc.1, hsc.2, Bool.and_self, finC, getRes, set_at c1, Option.some.injEq, exists_eq_left']
      refine ⟨o, rfl, ?_⟩
      rcases ho with ⟨h1, h2⟩ | ⟨h1, oo, h2, h3, h4⟩
      · exact .inl ⟨h1, h2⟩
      · exact .inr ⟨h1, oo, h2, h3, by rw [List.getElem?_set_ne (by omega)]; exact h4⟩
    have hi' : i < f.bids.length := by omega
    have eb := H.bi.el i (by omega) hlt
    have es2 := othS_succ (L := f.bids) (u := u) (n := i)
    have W := ww_is H i
    have ewi : ww f w i = w i := by simp [ww, hi']
    rw [Int.toNat_natCast] at eb
    rw [← ewi] at eb
    by_cases hu : (bAt f.bids i).u = u
    · have e1 : ((bAt f.bids i).u != u) = false := by simp [hu]
      rw [if_neg (by simp [hu]), List.append_nil] at es2
      simp (disch := first | assumption | omega | (simp only [az]; done)) only [ru, eq_self, if_true, if_false, BEq.rfl, binI, AO.row?, splice, fillL, mmAll, loadV, storeV, zeros, Am.rowAt, Am.part, addOff, Nat.reduceAdd, Nat.reduceMul, Nat.reduceLeDiff, Nat.reduceSub, Nat.reduceLT, Int.reduceEq, Int.reduceLT, Int.reduceLE, Int.reduceGT, Int.reduceGE, Int.reduceAdd, Int.reduceSub, Int.reduceMul, Int.reduceNeg, Int.reduceToNat, reduceCtorEq, reduceIte, lenV_sl H.h.k, lenV_sl H.h.p, lenV_sl H.h.b, elem_kd H.h.k, elem_pr H.h.p, elem_in H.h.b, view_sl H.h.k, view_sl H.h.p, view_sl H.h.b, scalar_sl H.h.k, scalar_sl H.h.p, scalar_sl H.h.b, cells_sl H.h.k, cells_sl H.h.p, cells_sl H.h.b, pure_sl H.h.k, pure_sl H.h.p, pure_sl H.h.b, Int.toNat_natCast, lenV_sl H.pk, view_sl H.pk, scalar_sl H.pk, cells_sl H.pk, pure_sl H.pk, H.bi.len, H.bi.sc, H.bi.ce, H.bi.pu, H.bi.vw, lenV_sl W, view_sl W, scalar_sl W, cells_sl W, pure_sl W, hlt, c0, eb, e1]
      exact ih (f.bids.length - (i + 1)) _ _ _ (by omega) ⟨i + 1, o, by omega, rfl, c0, c1, c2, by rw [es2]; exact ho, hle, rfl, rfl, rfl, rfl, rfl, rfl, rfl⟩
    have e1 : ((bAt f.bids i).u != u) = true := by simp [hu]
    rw [if_pos hu] at es2
    have ho' : OutE (enB f w) 3 3 (hk ++ [.tomb]) o (othS f.bids u i) := ho.fr (Fr.app hk _)
    obtain ⟨h', A2, l2, hp, k2⟩ := outE_apG (eb := 40) (p := hk.length) (lim := 0) he hs (by omega) (by omega) ho' (by simp) hle (by omega) (by have := othS_len (L := f.bids) (u := u) (n := i); omega) i
    simp only [enB] at A2
    have m0 : 0 < hk.length := by omega
    have m2 : 2 < hk.length := by omega
    have d2 : h'[2]? = some (.cells [hsK f, I f.h.fl, hsP f, hsB f, slV 1 intL f.pk, I f.d, I f.n, o] false) := by rw [k2 _ (by omega), at_ap m2]; exact c2
    simp (disch := first | assumption | omega | (simp only [az]; done)) only [ru, eq_self, if_true, if_false, BEq.rfl, binI, AO.row?, splice, fillL, mmAll, loadV, storeV, zeros, Am.rowAt, Am.part, addOff, Nat.reduceAdd, Nat.reduceMul, Nat.reduceLeDiff, Nat.reduceSub, Nat.reduceLT, Int.reduceEq, Int.reduceLT, Int.reduceLE, Int.reduceGT, Int.reduceGE, Int.reduceAdd, Int.reduceSub, Int.reduceMul, Int.reduceNeg, Int.reduceToNat, reduceCtorEq, reduceIte, lenV_sl H.h.k, lenV_sl H.h.p, lenV_sl H.h.b, elem_kd H.h.k, elem_pr H.h.p, elem_in H.h.b, view_sl H.h.k, view_sl H.h.p, view_sl H.h.b, scalar_sl H.h.k, scalar_sl H.h.p, scalar_sl H.h.b, cells_sl H.h.k, cells_sl H.h.p, cells_sl H.h.b, pure_sl H.h.k, pure_sl H.h.p, pure_sl H.h.b, Int.toNat_natCast, lenV_sl H.pk, view_sl H.pk, scalar_sl H.pk, cells_sl H.pk, pure_sl H.pk, H.bi.len, H.bi.sc, H.bi.ce, H.bi.pu, H.bi.vw, lenV_sl W, view_sl W, scalar_sl W, cells_sl W, pure_sl W, hlt, GO_mapp, hide, unhN, unhC, at_ap m0, at_ap m2, c0, c2, setE, eb, e1, exOp_litS, AV.pureV.go, AV.pureV, Bool.and_true, A2, d2]
    refine ih (f.bids.length - (i + 1)) _ _ _ (by omega) ⟨i + 1, .ms 3 hk.length 0 ((othS f.bids u i).length + 1), by omega, rfl, ?_, ?_, ?_, ?_, by simp [l2]; omega, rfl, rfl, rfl, rfl, rfl, rfl, rfl⟩
    · rw [List.getElem?_set_ne (by omega), k2 _ (by omega), at_ap m0]; exact c0
    · rw [List.getElem?_set_ne (by omega), k2 _ (by omega), at_ap (by omega)]; exact c1
    · rw [set_at d2]
    · refine .inr ⟨by rw [es2]; simp, hk.length, by omega, ?_, ?_⟩
      · rw [es2, List.length_append]; rfl
      · rw [List.getElem?_set_ne (by omega), hp, es2]
  obtain ⟨r, h', hr, o, rfl, ho⟩ := key
  have hv : ∃ v, Am.view false h' 7 o = some v ∧ IsSl 3 (enB f w) (othS f.bids u f.bids.length) v := by
    by_cases hn : othS f.bids u f.bids.length = []
    · rw [hn] at ho
      rcases ho with ⟨_, rfl⟩ | ⟨h, _⟩
      · exact ⟨.nils, view_nils, .inr ⟨rfl, hn⟩⟩
      · exact absurd rfl h
    · exact ⟨_, outE_view he ho hn fun j => by
        simp only [enB, List.mapM_cons, List.mapM_nil, view_int, view_sl (ww_is H j)]; rfl, slV_is⟩
  obtain ⟨v, hv1, hv2⟩ := hv
  have hb : IsSl 3 Bd.e ((othS f.bids u f.bids.length).map fun (j : Nat) => (⟨bAt f.bids j, ww f w j, ww_is H j⟩ : Bd)) v := by
    rcases hv2 with rfl | ⟨rfl, e⟩
    · refine .inl ?_
      rw [List.length_map, List.flatMap_map]; rfl
    · exact .inr ⟨rfl, by rw [e]; rfl⟩
  have hB := BsIn.of hb
  rw [List.map_map] at hB
  have em : (List.map (Bd.b ∘ fun (j : Nat) => (⟨bAt f.bids j, ww f w j, ww_is H j⟩ : Bd)) (othS f.bids u f.bids.length)) = (f.wo u).bids := by
    have := othS_map (L := f.bids) (u := u) f.bids.length (Nat.le_refl _)
    rw [List.take_length] at this
    exact this
  rw [em] at hB
  refine ⟨v, _, ?_, hB⟩
  simp only [Iso, hr]
  show ([hsK f, I f.h.fl, hsP f, hsB f, slV 1 intL f.pk, I f.d, I f.n, o].mapM (Am.view false h' 7)).map AV.agg = _
  simp only [List.mapM_cons, List.mapM_nil, view_int, slV, view_cs, hv1]; rfl
end
end Go.Proofs.YtfagcnokdnanpaaGreat.S
/-
The inputs of the laws of stage 9, as the abstract machine has them.
-/
namespace Go.Proofs.YtfagcnokdnanpaaGreat.S
open Go Go.Am Go.Proofs.YtfagcnokdnanpaaGreat.T
set_option linter.unusedVariables false
set_option maxRecDepth 100000
theorem z3 : Tryz.prog.cellsOf 3 = 1 := by kernel_rfl
theorem z22 : Tryz.prog.cellsOf 22 = 1 := by kernel_rfl
theorem z23 : Tryz.prog.cellsOf 23 = 1 := by kernel_rfl
theorem z24 : Tryz.prog.cellsOf 24 = 1 := by kernel_rfl
theorem z26 : Tryz.prog.cellsOf 26 = 4 := by kernel_rfl
theorem z101 : Tryz.prog.cellsOf 101 = 2 := by kernel_rfl
theorem z99 : Tryz.prog.cellsOf 99 = 2 := by kernel_rfl
theorem wfIc {d : Nat} {c : List AV} (h : WfC Tryz.prog (d + 1) 3 c) : ∃ i, c = [I i] ∧ True := by
  obtain ⟨i, e, hw⟩ := wf_int Tryz.underlying3 h
  exact ⟨i, e, trivial⟩
theorem wfI {d : Nat} {a : AV} (h : WfC Tryz.prog (d + 1) 3 [a]) : ∃ i, a = I i ∧ True := by
  obtain ⟨i, e, _⟩ := wfIc h
  simp only [List.cons.injEq, and_true] at e
  exact ⟨i, e, trivial⟩
theorem wfKd {d : Nat} {c : List AV} (h : WfC Tryz.prog (d + 2) 99 c) : ∃ s : Kd, c = s.e ∧ True := by
  obtain ⟨hl, hf⟩ := wf_struct Tryz.underlying99 h
  rw [z99] at hl
  match c, hl with
  | [x, y], _ =>
    have h0 : WfC Tryz.prog (d + 1) 3 (([x, y].drop 0).take (Tryz.prog.cellsOf 3)) := hf 0 _ rfl
    have h1 : WfC Tryz.prog (d + 1) 3 (([x, y].drop 1).take (Tryz.prog.cellsOf 3)) := hf 1 _ rfl
    rw [z3] at h0 h1
    obtain ⟨i, rfl, _⟩ := wfI (show WfC Tryz.prog (d + 1) 3 [x] from h0)
    obtain ⟨j, rfl, _⟩ := wfI (show WfC Tryz.prog (d + 1) 3 [y] from h1)
    exact ⟨⟨i, j⟩, rfl, trivial⟩
theorem wfPr {d : Nat} {c : List AV} (h : WfC Tryz.prog (d + 2) 101 c) : ∃ s : Pr, c = s.e ∧ True := by
  obtain ⟨hl, hf⟩ := wf_struct Tryz.underlying101 h
  rw [z101] at hl
  match c, hl with
  | [x, y], _ =>
    have h0 : WfC Tryz.prog (d + 1) 3 (([x, y].drop 0).take (Tryz.prog.cellsOf 3)) := hf 0 _ rfl
    have h1 : WfC Tryz.prog (d + 1) 3 (([x, y].drop 1).take (Tryz.prog.cellsOf 3)) := hf 1 _ rfl
    rw [z3] at h0 h1
    obtain ⟨i, rfl, _⟩ := wfI (show WfC Tryz.prog (d + 1) 3 [x] from h0)
    obtain ⟨j, rfl, _⟩ := wfI (show WfC Tryz.prog (d + 1) 3 [y] from h1)
    exact ⟨⟨i, j⟩, rfl, trivial⟩
theorem wfNums {d : Nat} {c : List AV} (h : WfC Tryz.prog (d + 2) 24 c) : ∃ (l : List Int) (v : AV), c = [v] ∧ IsSl 1 intL l v := by
  obtain ⟨l, v, e, iv, _⟩ := wf_sl (d := d + 1) (enc := intL) (p := fun _ => True) Tryz.underlying24 z3 (fun c hc => wfIc hc) h
  exact ⟨l, v, e, iv⟩
theorem wfHouse {d : Nat} {c : List AV} (h : WfC Tryz.prog (d + 4) 26 c) : ∃ (s : Hs) (k p b : AV), AV.agg c = hsV s.fl k p b ∧ HsIn s k p b := by
  obtain ⟨hl, hf⟩ := wf_struct Tryz.underlying26 h
  rw [z26] at hl
  match c, hl with
  | [x, y, z, u], _ =>
    have h0 : WfC Tryz.prog (d + 3) 22 (([x, y, z, u].drop 0).take (Tryz.prog.cellsOf 22)) := hf 0 _ rfl
    have h1 : WfC Tryz.prog (d + 3) 3 (([x, y, z, u].drop 1).take (Tryz.prog.cellsOf 3)) := hf 1 _ rfl
    have h2 : WfC Tryz.prog (d + 3) 23 (([x, y, z, u].drop 2).take (Tryz.prog.cellsOf 23)) := hf 2 _ rfl
    have h3 : WfC Tryz.prog (d + 3) 24 (([x, y, z, u].drop 3).take (Tryz.prog.cellsOf 24)) := hf 3 _ rfl
    rw [z22] at h0
    rw [z3] at h1
    rw [z23] at h2
    rw [z24] at h3
    obtain ⟨lk, k, e0, ik, _⟩ := wf_sl (d := d + 2) (enc := Kd.e) (p := fun _ => True) Tryz.underlying22 z99 (fun c hc => wfKd hc) (show WfC Tryz.prog (d + 3) 22 [x] from h0)
    obtain ⟨i, rfl, _⟩ := wfI (show WfC Tryz.prog (d + 2 + 1) 3 [y] from h1)
    obtain ⟨lp, p, e2, ip, _⟩ := wf_sl (d := d + 2) (enc := Pr.e) (p := fun _ => True) Tryz.underlying23 z101 (fun c hc => wfPr hc) (show WfC Tryz.prog (d + 3) 23 [z] from h2)
    obtain ⟨lb, b, e3, ib⟩ := wfNums (d := d + 1) (show WfC Tryz.prog (d + 3) 24 [u] from h3)
    simp only [List.cons.injEq, and_true] at e0 e2 e3
    subst e0; subst e2; subst e3
    exact ⟨⟨lk, i, lp, lb⟩, x, z, u, rfl, ⟨ik, ip, ib⟩⟩
theorem zBD : Tryz.prog.cellsOf 48 = 3 := by kernel_rfl
theorem zFA : Tryz.prog.cellsOf 29 = 8 := by kernel_rfl
theorem zBS : Tryz.prog.cellsOf 27 = 1 := by kernel_rfl
theorem wfBid {d : Nat} {c : List AV} (h : WfC Tryz.prog (d + 3) 48 c) : ∃ s : Bd, c = s.e ∧ True := by
  obtain ⟨hl, hf⟩ := wf_struct Tryz.underlying48 h
  rw [zBD] at hl
  match c, hl with
  | [x, y, z], _ =>
    have h0 : WfC Tryz.prog (d + 2) 3 (([x, y, z].drop 0).take (Tryz.prog.cellsOf 3)) := hf 0 _ rfl
    have h1 : WfC Tryz.prog (d + 2) 24 (([x, y, z].drop 1).take (Tryz.prog.cellsOf 24)) := hf 1 _ rfl
    have h2 : WfC Tryz.prog (d + 2) 3 (([x, y, z].drop 2).take (Tryz.prog.cellsOf 3)) := hf 2 _ rfl
    rw [z3] at h0 h2
    rw [z24] at h1
    obtain ⟨i, rfl, _⟩ := wfI (show WfC Tryz.prog (d + 1 + 1) 3 [x] from h0)
    obtain ⟨l, v, e, iv⟩ := wfNums (show WfC Tryz.prog (d + 2) 24 [y] from h1)
    obtain ⟨j, rfl, _⟩ := wfI (show WfC Tryz.prog (d + 1 + 1) 3 [z] from h2)
    simp only [List.cons.injEq, and_true] at e
    subst e
    exact ⟨⟨⟨i, l, j⟩, y, iv⟩, rfl, trivial⟩
theorem wfFair {d : Nat} {c : List AV} (h : WfC Tryz.prog (d + 5) 29 c) : ∃ (s : Fs) (k p b pv bv : AV) (w : Nat → AV), AV.agg c = frV s k p b pv bv ∧ FsIn s k p b pv bv w := by
  obtain ⟨hl, hf⟩ := wf_struct Tryz.underlying29 h
  rw [zFA] at hl
  match c, hl with
  | [x0, x1, x2, x3, x4, x5, x6, x7], _ =>
    have h0 : WfC Tryz.prog (d + 4) 26 (([x0, x1, x2, x3, x4, x5, x6, x7].drop 0).take (Tryz.prog.cellsOf 26)) := hf 0 _ rfl
    have h1 : WfC Tryz.prog (d + 4) 24 (([x0, x1, x2, x3, x4, x5, x6, x7].drop 4).take (Tryz.prog.cellsOf 24)) := hf 1 _ rfl
    have h2 : WfC Tryz.prog (d + 4) 3 (([x0, x1, x2, x3, x4, x5, x6, x7].drop 5).take (Tryz.prog.cellsOf 3)) := hf 2 _ rfl
    have h3 : WfC Tryz.prog (d + 4) 3 (([x0, x1, x2, x3, x4, x5, x6, x7].drop 6).take (Tryz.prog.cellsOf 3)) := hf 3 _ rfl
    have h4 : WfC Tryz.prog (d + 4) 27 (([x0, x1, x2, x3, x4, x5, x6, x7].drop 7).take (Tryz.prog.cellsOf 27)) := hf 4 _ rfl
    rw [z26] at h0
    rw [z24] at h1
    rw [z3] at h2 h3
    rw [zBS] at h4
    obtain ⟨hs, k, p, b, e0, ih⟩ := wfHouse (d := d) (show WfC Tryz.prog (d + 4) 26 [x0, x1, x2, x3] from h0)
    obtain ⟨lp, pv, e1, ip⟩ := wfNums (d := d + 2) (show WfC Tryz.prog (d + 4) 24 [x4] from h1)
    obtain ⟨i, rfl, _⟩ := wfI (show WfC Tryz.prog (d + 3 + 1) 3 [x5] from h2)
    obtain ⟨j, rfl, _⟩ := wfI (show WfC Tryz.prog (d + 3 + 1) 3 [x6] from h3)
    obtain ⟨lb, bv, e4, ib, _⟩ := wf_sl (d := d + 3) (enc := Bd.e) (p := fun _ => True) Tryz.underlying27 zBD (fun c hc => wfBid hc) (show WfC Tryz.prog (d + 4) 27 [x7] from h4)
    simp only [List.cons.injEq, and_true, AV.agg.injEq] at e0 e1 e4
    obtain ⟨rfl, rfl, rfl, rfl⟩ := e0
    subst e1; subst e4
    exact ⟨⟨hs, lp, i, j, lb.map Bd.b⟩, x0, x2, x3, x4, x7, _, rfl, ⟨ih, ip, BsIn.of ib⟩⟩
theorem own : ownKnob Tryz.prog.godebug = none := by kernel_rfl
theorem laidOut : laidOutB Tryz.prog = true := by kernel_rfl
def fairW : Value := .agg #[.slice none 0 0, .int .i64 0, .slice none 0 0, .slice none 0 0, .slice none 0 0, .int .i64 0, .int .i64 0, .slice none 0 0]
end Go.Proofs.YtfagcnokdnanpaaGreat.S
/-
The chapter's examples.
-/
namespace Go.Proofs.YtfagcnokdnanpaaGreat.S
open Go Go.Am Go.Proofs.YtfagcnokdnanpaaGreat.T
set_option maxRecDepth 100000
set_option linter.unusedSimpArgs false
set_option linter.unusedVariables false
def exF : Fs := ⟨⟨[⟨3, 10⟩, ⟨5, 4⟩], 2, [⟨0, 10⟩, ⟨0, 15⟩, ⟨1, 8⟩], [40, 20]⟩, [0, 0, 1], 10, 3, [⟨0, [0], 30⟩, ⟨1, [0, 1], 45⟩, ⟨2, [1], 12⟩, ⟨0, [1], 20⟩]⟩
def exG : Fs := exF.on exF.pk 5
theorem exF_ok : ∃ w, FsOk exF (hsK exF) (hsP exF) (hsB exF) (slV 1 intL exF.pk) (resB exF.bids) w := by
  obtain ⟨w, h⟩ := cpF_in exF
  refine ⟨w, h, ⟨h.h, by decide, by decide, by decide⟩, by decide, by decide, ?_⟩
  intro i hi
  have : ∀ i : Fin 4, (exF.bids.getD i default).bs.length ≤ 41 := by decide
  exact this ⟨i, hi⟩
theorem exG_ok : ∃ w, FsOk exG (hsK exG) (hsP exG) (hsB exG) (slV 1 intL exG.pk) (resB exG.bids) w := by
  obtain ⟨w, h⟩ := exF_ok
  exact ⟨w, h.on slV_is h.np 5⟩
theorem xv : exF.valid = true ∧ exG.valid = true := by decide +kernel
theorem x40 : idx (fun i => exG.r i) 4 = [1] := by decide +kernel
theorem x44 : tops exF.bids exF.r = 45 := by decide +kernel
theorem x46 : bV (bsT exF.bids (fun _ => true) (allS exF.r exF.bids)) = slV 1 intL [1] := by
  have : bsT exF.bids (fun _ => true) (allS exF.r exF.bids) = ([1], 45) := by decide +kernel
  rw [this]; rfl
theorem x25 : payF exF.bids exF.r 1 = 42 := by decide +kernel
theorem x49 : needE exF.bids exF.r 0 = false ∧ needF exF.bids exF.r 0 = 33 := by decide +kernel
theorem x55 : (fsB (fun d => tops exF.bids (rdF exF.h exF.pk d)) 21).1 = 10 := by decide +kernel
abbrev exV (d : Int) : AV := .agg [.cs 2 2 [I 3, I 10, I 5, I 4], I 2, .cs 2 3 [I 0, I 10, I 0, I 15, I 1, I 8], .cs 1 2 [I 40, I 20], .cs 1 3 [I 0, I 0, I 1], I d, I 3, .cs 3 4 [I 0, .cs 1 1 [I 0], I 30, I 1, .cs 1 2 [I 0, I 1], I 45, I 2, .cs 1 1 [I 1], I 12, I 0, .cs 1 1 [I 1], I 20]]
set_option maxHeartbeats 1000000 in
theorem t60 : Iso E 60 [] false = some (.tup [exV 10, exV 5]) := by
  obtain ⟨w, H⟩ := exF_ok
  have a : Iso E 93 [exV 10, I 5] false = some (exV 5) := t93 H 5
  refine Iso_of (es _ _ _ _) e60 ?_
  simp only [f60]
  simp only [exV] at a ⊢
  simp (disch := first | assumption | omega | (simp only [az]; done)) only [ru, eq_self, if_true, if_false, BEq.rfl, binI, AO.row?, splice, fillL, mmAll, loadV, storeV, zeros, Am.rowAt, Am.part, addOff, Nat.reduceAdd, Nat.reduceMul, Nat.reduceLeDiff, Nat.reduceSub, Nat.reduceLT, Int.reduceEq, Int.reduceLT, Int.reduceLE, Int.reduceGT, Int.reduceGE, Int.reduceAdd, Int.reduceSub, Int.reduceMul, Int.reduceNeg, Int.reduceToNat, reduceCtorEq, reduceIte, exOp_litS, AV.pureV.go, AV.pureV, Bool.and_true, List.append_assoc, List.cons_append, List.nil_append, a, Bool.and_self]
  refine finG (vs := [exV 10, exV 5]) ?_ |>.mpr ?_
  · rfl
  · simp only [view_tup, List.mapM_cons, List.mapM_nil]; rfl
set_option maxHeartbeats 1000000 in
theorem t15 (st : Bool) : Iso E 15 [] st = some (Bo true) := by
  obtain ⟨w, H⟩ := exF_ok
  obtain ⟨w', H'⟩ := exG_ok
  have a0 := t60
  have a1 := fun st => t40 H' st
  have a2 := fun st => t44 H st
  have a3 := t46 H
  have a4 := fun st => t25 H 1 st
  have a5 := fun st => t49 H 0 st
  have a6 := fun st => t55 H st
  have k1 : inR 1 0 (exF.n - 1) = true := by decide
  have k2 : inR 0 0 (exF.bids.length - 1) = true := by decide
  simp only [xv.1, xv.2, x40, x44, x46, x25, x49.1, x49.2, x55, fE_t, if_true, askF, k1, k2, and_self, Bool.false_eq_true, if_false] at a1 a2 a3 a4 a5 a6
  have r1 : resL [1] = .cs 1 1 [I 1] := rfl
  have r2 : slV 1 intL [1] = .cs 1 1 [I 1] := rfl
  rw [r1] at a1
  rw [r2] at a3
  have b1 : ∀ st, Iso E 40 [exV 5] st = some (.tup [.cs 1 1 [I 1], I 0]) := a1
  have b2 : ∀ st, Iso E 44 [exV 10] st = some (.tup [I 45, I 0]) := a2
  have b3 : Iso E 46 [exV 10] false = some (.tup [.cs 1 1 [I 1], I 0]) := a3
  have b4 : ∀ st, Iso E 25 [exV 10, I 1] st = some (.tup [I 42, I 0]) := a4
  have b5 : ∀ st, Iso E 49 [exV 10, I 0] st = some (.tup [I 33, I 0]) := a5
  have b6 : ∀ st, Iso E 55 [exV 10] st = some (.tup [I 10, I 0]) := a6
  have b7 : ∀ st, Iso E 35 [.cs 1 1 [I 1], .cs 1 1 [I 1]] st = some (Bo true) := fun st => s28 (l := [1]) (.inl rfl) (.inl rfl) (by decide) st
  simp only [exV] at a0 b1 b2 b3 b4 b5 b6
  refine Iso_of (es _ _ _ _) e15 ?_
  simp only [f15]
  simp (disch := first | assumption | omega | (simp only [az]; done)) only [ru, eq_self, if_true, if_false, BEq.rfl, binI, AO.row?, splice, fillL, mmAll, loadV, storeV, zeros, Am.rowAt, Am.part, addOff, Nat.reduceAdd, Nat.reduceMul, Nat.reduceLeDiff, Nat.reduceSub, Nat.reduceLT, Int.reduceEq, Int.reduceLT, Int.reduceLE, Int.reduceGT, Int.reduceGE, Int.reduceAdd, Int.reduceSub, Int.reduceMul, Int.reduceNeg, Int.reduceToNat, reduceCtorEq, reduceIte, a0, b1, b2, b3, b4, b5, b6, b7, exOp_litS, AV.pureV.go, AV.pureV, Bool.and_true, gUn, Bool.and_self]
  done
end Go.Proofs.YtfagcnokdnanpaaGreat.S
/-
Sales as lists with conditions on pairs; their order; what the best come to.
-/
namespace Go.Proofs.YtfagcnokdnanpaaGreat.S
set_option linter.unusedVariables false
set_option linter.unusedSimpArgs false
def prS (L : List Bi) (a b : Int) : Prop := a < b ∧ (bAt L a).u ≠ (bAt L b).u ∧ shr (bAt L a) (bAt L b) = false
theorem isS_iff {r : Int → Bool} {L : List Bi} {s : List Int} : isS r L s = true ↔ (∀ x ∈ s, 0 ≤ x ∧ x < L.length ∧ (bAt L x).bs.all r = true) ∧ s.Pairwise (prS L) := by
  constructor
  · intro h
    refine ⟨fun x hx => ?_, pair_of (d := 0) fun i j hij hj => isS_pair h hij hj⟩
    obtain ⟨j, hj, rfl⟩ := mem_getD (d := 0) hx
    exact isS_at h hj
  · rintro ⟨h1, h2⟩
    unfold isS
    simp only [List.all_eq_true, List.mem_range, Bool.and_eq_true, inR_iff, fitS]
    intro i hi
    have hm := h1 _ (getD_memI hi)
    have hb := hm.2.2
    rw [List.all_eq_true] at hb
    refine ⟨⟨hm.1, by omega⟩, fun x hx => ?_, hb⟩
    obtain ⟨j, hj, rfl⟩ := mem_getD (d := 0) hx
    rw [List.length_take] at hj
    have e : (s.take i).getD j 0 = s.getD j 0 := by simp only [List.getD_eq_getElem?_getD]; rw [List.getElem?_take_of_lt (by omega)]
    rw [e]
    have h3 : prS L (s.getD j 0) (s.getD i 0) := by
      have := (List.pairwise_iff_getElem.1 h2) j i (by omega) hi (by omega)
      simpa [List.getD_eq_getElem?_getD, List.getElem?_eq_getElem hi, List.getElem?_eq_getElem (show j < s.length by omega)] using this
    simp only [apB, Bool.and_eq_true, decide_eq_true_eq, Bool.not_eq_true']
    exact ⟨⟨h3.1, h3.2.1⟩, h3.2.2⟩
theorem isS_mono {r r' : Int → Bool} {L : List Bi} {s : List Int} (hr : ∀ x, r x = true → r' x = true) (h : isS r L s = true) : isS r' L s = true := by
  obtain ⟨h1, h2⟩ := isS_iff.1 h
  exact isS_iff.2 ⟨fun x hx => ⟨(h1 x hx).1, (h1 x hx).2.1, List.all_eq_true.2 fun y hy => hr y (List.all_eq_true.1 (h1 x hx).2.2 y hy)⟩, h2⟩
theorem bAt_set {L : List Bi} {c : Int} {b : Bi} (c0 : 0 ≤ c) (hc : c < L.length) {x : Int} (x0 : 0 ≤ x) : bAt (L.set c.toNat b) x = if x = c then b else bAt L x := by
  simp only [bAt, List.getD_eq_getElem?_getD, List.getElem?_set]
  by_cases h : x = c
  · subst h
    rw [if_pos rfl, if_pos (by omega), if_pos rfl]; rfl
  · rw [if_neg (by omega), if_neg h]
def bef (s t : List Int) : Prop := s.length < t.length ∨ (s.length = t.length ∧ ear s t = true)
theorem bef_asym {s t : List Int} (h : bef s t) : ¬ bef t s := by
  rintro (h2 | ⟨h2, h3⟩) <;> rcases h with h | ⟨h, h1⟩
  · omega
  · omega
  · omega
  · rw [ear_asym h1] at h3; cases h3
theorem ens_len {ok : List Int → Bool} {cs : List Int} : ∀ {d : Nat} {F s : List Int}, s ∈ ens ok cs d F → s.length = F.length + d ∧ s.take F.length = F
  | 0, F, s, h => by
    unfold ens at h
    split at h
    · simp at h; subst h; simp
    · simp at h
  | d + 1, F, s, h => by
    unfold ens at h
    split at h
    · simp only [List.mem_flatMap] at h
      obtain ⟨c, _, h⟩ := h
      obtain ⟨h1, h2⟩ := ens_len h
      simp only [List.length_append, List.length_singleton] at h1 h2
      refine ⟨by omega, ?_⟩
      have := congrArg (List.take F.length) h2
      simpa [List.take_take] using this
    · simp at h
theorem pw_flatMap {α β : Type} {R : β → β → Prop} {f : α → List β} : ∀ {l : List α}, (∀ a ∈ l, (f a).Pairwise R) → l.Pairwise (fun a b => ∀ x ∈ f a, ∀ y ∈ f b, R x y) → (l.flatMap f).Pairwise R
  | [], _, _ => List.Pairwise.nil
  | a :: l, h1, h2 => by
    obtain ⟨p1, p2⟩ := List.pairwise_cons.1 h2
    rw [List.flatMap_cons, List.pairwise_append]
    refine ⟨h1 a (by simp), pw_flatMap (fun b hb => h1 b (by simp [hb])) p2, fun x hx y hy => ?_⟩
    obtain ⟨b, hb, hy⟩ := List.mem_flatMap.1 hy
    exact p1 b hb x hx y hy
theorem upto_pw (n : Nat) : (upto n).Pairwise (fun a b => a < b) := by
  unfold upto
  rw [List.pairwise_map]
  exact (List.pairwise_lt_range (n := n)).imp fun h => by omega
theorem ens_pw {ok : List Int → Bool} {n : Nat} : ∀ (d : Nat) (F : List Int), (ens ok (upto n) d F).Pairwise (fun s t => ear s t = true)
  | 0, F => by
    unfold ens
    split
    · exact List.pairwise_singleton _ _
    · exact List.Pairwise.nil
  | d + 1, F => by
    unfold ens
    split
    · refine pw_flatMap (fun c _ => ens_pw d (F ++ [c])) ((upto_pw n).imp fun {a b} hab s hs t ht => ?_)
      obtain ⟨_, h1⟩ := ens_len hs
      obtain ⟨_, h2⟩ := ens_len ht
      rw [← List.take_append_drop (F ++ [a]).length s, ← List.take_append_drop (F ++ [b]).length t, h1, h2, List.append_assoc, List.append_assoc, ear_app]
      simp only [List.singleton_append, ear]
      rw [if_pos (by omega)]
      simpa using hab
    · exact List.Pairwise.nil
theorem allS_pw {r : Int → Bool} {L : List Bi} : (allS r L).Pairwise bef := by
  unfold allS salT
  refine pw_flatMap (fun m _ => ?_) ?_
  · refine List.Pairwise.imp_of_mem ?_ (ens_pw m [])
    intro s t hs ht h
    have h1 := (ens_len hs).1
    have h2 := (ens_len ht).1
    exact .inr ⟨by omega, h⟩
  · refine (List.pairwise_lt_range (n := L.length + 1)).imp fun {a b} hab s hs t ht => ?_
    have h1 := (mem_sals.1 hs).2
    have h2 := (mem_sals.1 ht).2
    exact .inl (by omega)
section
variable {L : List Bi} {n : Int} {nb : Nat} {r : Int → Bool}
theorem best_ge (G : BG n nb L) {pm : List Int → Bool} {s : List Int} (hs : isS r L s = true) (hp : pm s = true) : prc L s ≤ (bsT L pm (allS r L)).2 :=
  (bsT_spec (L := L) (p := pm) (allS r L) fun s hs => (sale_bd G (mem_allS.1 hs)).1).1 s (mem_allS.2 hs) hp
theorem best_at (G : BG n nb L) {pm : List Int → Bool} : ((bsT L pm (allS r L)).2 = -1 ∧ (bsT L pm (allS r L)).1 = [] ∧ ∀ s, isS r L s = true → pm s = false) ∨ (isS r L (bsT L pm (allS r L)).1 = true ∧ pm (bsT L pm (allS r L)).1 = true ∧ (bsT L pm (allS r L)).2 = prc L (bsT L pm (allS r L)).1 ∧ ∀ s, isS r L s = true → pm s = true → bef s (bsT L pm (allS r L)).1 → prc L s < (bsT L pm (allS r L)).2) := by
  rcases (bsT_spec (L := L) (p := pm) (allS r L) fun s hs => (sale_bd G (mem_allS.1 hs)).1).2 with ⟨e1, e2, e3⟩ | ⟨a, b, e1, e2, e3, e4⟩
  · exact .inl ⟨e1, e2, fun s hs => e3 s (mem_allS.2 hs)⟩
  · refine .inr ⟨win_isS G, e2, e3, fun s hs hp hb => ?_⟩
    have hm := mem_allS.2 hs
    have pw := allS_pw (r := r) (L := L)
    generalize (bsT L pm (allS r L)) = z at *
    rw [e1] at hm pw
    rcases List.mem_append.1 hm with h | h
    · exact e4 s h hp
    · rcases List.mem_cons.1 h with rfl | h
      · exact absurd hb (bef_asym hb)
      · have := (List.pairwise_cons.1 (List.pairwise_append.1 pw).2.1).1 s h
        exact absurd hb (bef_asym this)
theorem tops_ge (G : BG n nb L) {s : List Int} (hs : isS r L s = true) : prc L s ≤ tops L r := best_ge G hs rfl
theorem wins_is (G : BG n nb L) : isS r L (wins L r) = true ∧ prc L (wins L r) = tops L r ∧ ∀ s, isS r L s = true → bef s (wins L r) → prc L s < tops L r := by
  rcases best_at G (r := r) (pm := fun _ => true) with ⟨_, _, h⟩ | ⟨h1, _, h3, h4⟩
  · have := h [] isS_nil; cases this
  · exact ⟨h1, h3.symm, fun s hs hb => h4 s hs rfl hb⟩
def noU (L : List Bi) (r : Int → Bool) (u : Int) : Int := (bsT L (fun s => !s.any (byU L u)) (allS r L)).2
theorem noU_is (G : BG n nb L) {u : Int} : noU L r u ≤ tops L r ∧ 0 ≤ noU L r u := by
  have h0 : prc L [] ≤ noU L r u := best_ge G (r := r) isS_nil rfl
  simp only [prc, List.map_nil, sm] at h0
  refine ⟨?_, h0⟩
  rcases best_at G (r := r) (pm := fun s => !s.any (byU L u)) with ⟨h, _, _⟩ | ⟨h1, _, h3, _⟩
  · have : noU L r u = -1 := h
    omega
  · show (bsT _ _ _).2 ≤ _; rw [h3]; exact tops_ge G h1
end
end Go.Proofs.YtfagcnokdnanpaaGreat.S
