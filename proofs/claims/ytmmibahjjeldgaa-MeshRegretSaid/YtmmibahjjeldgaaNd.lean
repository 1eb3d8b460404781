/-
The law of regret.
-/
import Derived.Test.YtmmibahjjeldgaaNa
namespace Go.Proofs.Ytmmibahjjeldgaa.S
open Go Go.Am Go.Proofs.Ytmmibahjjeldgaa.T
set_option maxRecDepth 100000
set_option linter.unusedSimpArgs false
set_option linter.unusedVariables false
attribute [local irreducible] Go.Am.G Go.Am.GO Go.Am.GG Go.Am.GC Go.Am.GP Go.Am.GX

section
variable {n : Net} {g p : AV} {A B C : List Int} {u v w : AV}
set_option maxHeartbeats 8000000 in
theorem s13 (H0 : NetIn n g p) (U : IsSl 1 intL A u) (V : IsSl 1 intL B v) (W : IsSl 1 intL C w) (st : Bool) : Iso E 13 [netV n g p, .agg [u, v, w]] st = some (Bo true) := by
  have g0 := fun st => s49' H0 4 st
  refine Iso_of (es _ _ _ _) e13 ?_
  simp only [f13, netV] at g0 ⊢
  cases hr : rdyB n 4
  case false => simp (disch := first | assumption | omega | (simp only [az]; done)) only [ru, eq_self, if_true, if_false, BEq.rfl, binI, AO.row?, splice, fillL, mmAll, loadV, storeV, zeros, Am.rowAt, Am.part, addOff, Nat.reduceAdd, Nat.reduceMul, Nat.reduceLeDiff, Nat.reduceSub, Nat.reduceLT, Int.reduceEq, Int.reduceLT, Int.reduceLE, Int.reduceGT, Int.reduceGE, Int.reduceAdd, Int.reduceSub, Int.reduceMul, Int.reduceNeg, Int.reduceToNat, reduceCtorEq, reduceIte, lenV_sl H0.g, view_sl H0.g, scalar_sl H0.g, cells_sl H0.g, pure_sl H0.g, lenV_sl H0.p, view_sl H0.p, scalar_sl H0.p, cells_sl H0.p, pure_sl H0.p, lenV_sl U, view_sl U, scalar_sl U, cells_sl U, pure_sl U, lenV_sl V, view_sl V, scalar_sl V, cells_sl V, pure_sl V, lenV_sl W, view_sl W, scalar_sl W, cells_sl W, pure_sl W, g0, hr, gUn, Bool.not_false, s15]
  obtain ⟨H, hv⟩ := rdy_ok H0 hr
  by_cases hA : (A.length : Int) > 40
  · simp (disch := first | assumption | omega | (simp only [az]; done)) only [ru, eq_self, if_true, if_false, BEq.rfl, binI, AO.row?, splice, fillL, mmAll, loadV, storeV, zeros, Am.rowAt, Am.part, addOff, Nat.reduceAdd, Nat.reduceMul, Nat.reduceLeDiff, Nat.reduceSub, Nat.reduceLT, Int.reduceEq, Int.reduceLT, Int.reduceLE, Int.reduceGT, Int.reduceGE, Int.reduceAdd, Int.reduceSub, Int.reduceMul, Int.reduceNeg, Int.reduceToNat, reduceCtorEq, reduceIte, lenV_sl H0.g, view_sl H0.g, scalar_sl H0.g, cells_sl H0.g, pure_sl H0.g, lenV_sl H0.p, view_sl H0.p, scalar_sl H0.p, cells_sl H0.p, pure_sl H0.p, lenV_sl U, view_sl U, scalar_sl U, cells_sl U, pure_sl U, lenV_sl V, view_sl V, scalar_sl V, cells_sl V, pure_sl V, lenV_sl W, view_sl W, scalar_sl W, cells_sl W, pure_sl W, g0, hr, hA, gUn, decide_true, Bool.not_true, s15]
  by_cases hB : (B.length : Int) > 40
  · simp (disch := first | assumption | omega | (simp only [az]; done)) only [ru, eq_self, if_true, if_false, BEq.rfl, binI, AO.row?, splice, fillL, mmAll, loadV, storeV, zeros, Am.rowAt, Am.part, addOff, Nat.reduceAdd, Nat.reduceMul, Nat.reduceLeDiff, Nat.reduceSub, Nat.reduceLT, Int.reduceEq, Int.reduceLT, Int.reduceLE, Int.reduceGT, Int.reduceGE, Int.reduceAdd, Int.reduceSub, Int.reduceMul, Int.reduceNeg, Int.reduceToNat, reduceCtorEq, reduceIte, lenV_sl H0.g, view_sl H0.g, scalar_sl H0.g, cells_sl H0.g, pure_sl H0.g, lenV_sl H0.p, view_sl H0.p, scalar_sl H0.p, cells_sl H0.p, pure_sl H0.p, lenV_sl U, view_sl U, scalar_sl U, cells_sl U, pure_sl U, lenV_sl V, view_sl V, scalar_sl V, cells_sl V, pure_sl V, lenV_sl W, view_sl W, scalar_sl W, cells_sl W, pure_sl W, g0, hr, hA, hB, gUn, decide_true, decide_false, Bool.not_true, s15]
  have cA := fun st => s50 H U (by omega) st
  have cB := fun st => s50 H V (by omega) st
  simp only [netV] at cA cB
  cases hoA : ordB n A
  case false => simp (disch := first | assumption | omega | (simp only [az]; done)) only [ru, eq_self, if_true, if_false, BEq.rfl, binI, AO.row?, splice, fillL, mmAll, loadV, storeV, zeros, Am.rowAt, Am.part, addOff, Nat.reduceAdd, Nat.reduceMul, Nat.reduceLeDiff, Nat.reduceSub, Nat.reduceLT, Int.reduceEq, Int.reduceLT, Int.reduceLE, Int.reduceGT, Int.reduceGE, Int.reduceAdd, Int.reduceSub, Int.reduceMul, Int.reduceNeg, Int.reduceToNat, reduceCtorEq, reduceIte, lenV_sl H0.g, view_sl H0.g, scalar_sl H0.g, cells_sl H0.g, pure_sl H0.g, lenV_sl H0.p, view_sl H0.p, scalar_sl H0.p, cells_sl H0.p, pure_sl H0.p, lenV_sl U, view_sl U, scalar_sl U, cells_sl U, pure_sl U, lenV_sl V, view_sl V, scalar_sl V, cells_sl V, pure_sl V, lenV_sl W, view_sl W, scalar_sl W, cells_sl W, pure_sl W, g0, hr, hA, hB, cA, hoA, gUn, decide_false, Bool.not_true, Bool.not_false, s15]
  cases hoB : ordB n B
  case false => simp (disch := first | assumption | omega | (simp only [az]; done)) only [ru, eq_self, if_true, if_false, BEq.rfl, binI, AO.row?, splice, fillL, mmAll, loadV, storeV, zeros, Am.rowAt, Am.part, addOff, Nat.reduceAdd, Nat.reduceMul, Nat.reduceLeDiff, Nat.reduceSub, Nat.reduceLT, Int.reduceEq, Int.reduceLT, Int.reduceLE, Int.reduceGT, Int.reduceGE, Int.reduceAdd, Int.reduceSub, Int.reduceMul, Int.reduceNeg, Int.reduceToNat, reduceCtorEq, reduceIte, lenV_sl H0.g, view_sl H0.g, scalar_sl H0.g, cells_sl H0.g, pure_sl H0.g, lenV_sl H0.p, view_sl H0.p, scalar_sl H0.p, cells_sl H0.p, pure_sl H0.p, lenV_sl U, view_sl U, scalar_sl U, cells_sl U, pure_sl U, lenV_sl V, view_sl V, scalar_sl V, cells_sl V, pure_sl V, lenV_sl W, view_sl W, scalar_sl W, cells_sl W, pure_sl W, g0, hr, hA, hB, cA, hoA, cB, hoB, gUn, decide_false, Bool.not_true, Bool.not_false, s15]
  by_cases hC : (C.length : Int) = n.hs.length
  case neg =>
    have e : ((C.length : Int) != n.hs.length) = true := by simpa using hC
    simp (disch := first | assumption | omega | (simp only [az]; done)) only [ru, eq_self, if_true, if_false, BEq.rfl, binI, AO.row?, splice, fillL, mmAll, loadV, storeV, zeros, Am.rowAt, Am.part, addOff, Nat.reduceAdd, Nat.reduceMul, Nat.reduceLeDiff, Nat.reduceSub, Nat.reduceLT, Int.reduceEq, Int.reduceLT, Int.reduceLE, Int.reduceGT, Int.reduceGE, Int.reduceAdd, Int.reduceSub, Int.reduceMul, Int.reduceNeg, Int.reduceToNat, reduceCtorEq, reduceIte, lenV_sl H0.g, view_sl H0.g, scalar_sl H0.g, cells_sl H0.g, pure_sl H0.g, lenV_sl H0.p, view_sl H0.p, scalar_sl H0.p, cells_sl H0.p, pure_sl H0.p, lenV_sl U, view_sl U, scalar_sl U, cells_sl U, pure_sl U, lenV_sl V, view_sl V, scalar_sl V, cells_sl V, pure_sl V, lenV_sl W, view_sl W, scalar_sl W, cells_sl W, pure_sl W, g0, hr, hA, hB, cA, hoA, cB, hoB, e, gUn, decide_false, Bool.not_true, s15]
  have OA := ordB_iff.1 hoA
  have OB := ordB_iff.1 hoB
  obtain ⟨G, _⟩ := valid_ok hv
  have A6 := ord_len G OA
  have B6 := ord_len G OB
  have k6 := G.h.le
  have eC := elem_in W
  have eh := elem_hl H.g
  simp (disch := first | assumption | omega | (simp only [az]; done)) only [ru, eq_self, if_true, if_false, BEq.rfl, binI, AO.row?, splice, fillL, mmAll, loadV, storeV, zeros, Am.rowAt, Am.part, addOff, Nat.reduceAdd, Nat.reduceMul, Nat.reduceLeDiff, Nat.reduceSub, Nat.reduceLT, Int.reduceEq, Int.reduceLT, Int.reduceLE, Int.reduceGT, Int.reduceGE, Int.reduceAdd, Int.reduceSub, Int.reduceMul, Int.reduceNeg, Int.reduceToNat, reduceCtorEq, reduceIte, lenV_sl H.g, view_sl H.g, scalar_sl H.g, cells_sl H.g, pure_sl H.g, lenV_sl H.p, view_sl H.p, scalar_sl H.p, cells_sl H.p, pure_sl H.p, lenV_sl U, view_sl U, scalar_sl U, cells_sl U, pure_sl U, lenV_sl V, view_sl V, scalar_sl V, cells_sl V, pure_sl V, lenV_sl W, view_sl W, scalar_sl W, cells_sl W, pure_sl W, g0, hr, hA, hB, cA, hoA, cB, hoB, hC, gUn, decide_false, Bool.not_true, bne_self_eq_false]
  refine G_loop_ind (fun m ts h mk => ∃ (i : Nat) (z : Bool), i ≤ C.length ∧ m = C.length - i ∧ (∀ j, j < i → (n.hs.getD j default).lo ≤ C.getD j 0 ∧ C.getD j 0 ≤ (n.hs.getD j default).hi) ∧ (z = true → ∀ j, j < i → (n.hs.getD j default).hi = 0) ∧ ts.length = 191 ∧ ts.getD 2 .undef = .ptr 0 0 ∧ ts.getD 5 .undef = u ∧ ts.getD 6 .undef = v ∧ ts.getD 7 .undef = w ∧ ts.getD 8 .undef = Bo z ∧ ts.getD 9 .undef = I i ∧ h = [.cells [I n.m, g, p] false, .cells [u, v, w] false] ∧ mk = []) ?_ _ _ _ _
    ⟨0, true, Nat.zero_le _, rfl, fun j h => by omega, fun _ j h => by omega, rfl, rfl, rfl, rfl, rfl, rfl, rfl, rfl, rfl⟩
  rintro m ts h mk ih ⟨i, z, hi, rfl, hin, hz, hl', q2, q5, q6, q7, q8, q9, rfl, rfl⟩
  rw [lit_all hl']
  simp only [lit0, litS, Nat.reduceAdd, q2, q5, q6, q7, q8, q9]
  simp (disch := first | assumption | omega | (simp only [az]; done)) only [ru, eq_self, if_true, if_false, BEq.rfl, binI, AO.row?, splice, fillL, mmAll, loadV, storeV, zeros, Am.rowAt, Am.part, addOff, Nat.reduceAdd, Nat.reduceMul, Nat.reduceLeDiff, Nat.reduceSub, Nat.reduceLT, Int.reduceEq, Int.reduceLT, Int.reduceLE, Int.reduceGT, Int.reduceGE, Int.reduceAdd, Int.reduceSub, Int.reduceMul, Int.reduceNeg, Int.reduceToNat, reduceCtorEq, reduceIte, lenV_sl W, view_sl W, scalar_sl W, cells_sl W, pure_sl W]
  by_cases hlt : (i : Int) < C.length
  case pos =>
    have hlt' : (i : Int) < n.hs.length := by omega
    obtain ⟨x, hx⟩ : ∃ x, x = n.hs.getD i default := ⟨_, rfl⟩
    cases hw : inR (C.getD i 0) x.lo x.hi
    · simp (disch := first | assumption | omega | (simp only [az]; done)) only [ru, eq_self, if_true, if_false, BEq.rfl, binI, AO.row?, splice, fillL, mmAll, loadV, storeV, zeros, Am.rowAt, Am.part, addOff, Nat.reduceAdd, Nat.reduceMul, Nat.reduceLeDiff, Nat.reduceSub, Nat.reduceLT, Int.reduceEq, Int.reduceLT, Int.reduceLE, Int.reduceGT, Int.reduceGE, Int.reduceAdd, Int.reduceSub, Int.reduceMul, Int.reduceNeg, Int.reduceToNat, reduceCtorEq, reduceIte, lenV_sl H.g, view_sl H.g, scalar_sl H.g, cells_sl H.g, pure_sl H.g, lenV_sl H.p, view_sl H.p, scalar_sl H.p, cells_sl H.p, pure_sl H.p, lenV_sl W, view_sl W, scalar_sl W, cells_sl W, pure_sl W, eC, eh, Int.toNat_natCast, hlt, hlt', ← hx, s17, hw, Bool.not_false, s15]
    · have hw' := inR_iff.1 hw
      have hin' : ∀ j, j < i + 1 → (n.hs.getD j default).lo ≤ C.getD j 0 ∧ C.getD j 0 ≤ (n.hs.getD j default).hi := fun j hj => by
        by_cases c : j = i
        · subst c; rw [← hx]; exact hw'
        · exact hin j (by omega)
      cases z
      · simp (disch := first | assumption | omega | (simp only [az]; done)) only [ru, eq_self, if_true, if_false, BEq.rfl, binI, AO.row?, splice, fillL, mmAll, loadV, storeV, zeros, Am.rowAt, Am.part, addOff, Nat.reduceAdd, Nat.reduceMul, Nat.reduceLeDiff, Nat.reduceSub, Nat.reduceLT, Int.reduceEq, Int.reduceLT, Int.reduceLE, Int.reduceGT, Int.reduceGE, Int.reduceAdd, Int.reduceSub, Int.reduceMul, Int.reduceNeg, Int.reduceToNat, reduceCtorEq, reduceIte, lenV_sl H.g, view_sl H.g, scalar_sl H.g, cells_sl H.g, pure_sl H.g, lenV_sl H.p, view_sl H.p, scalar_sl H.p, cells_sl H.p, pure_sl H.p, lenV_sl W, view_sl W, scalar_sl W, cells_sl W, pure_sl W, eC, eh, Int.toNat_natCast, hlt, hlt', ← hx, s17, hw, gUn, Bool.not_true]
        exact ih (C.length - (i + 1)) _ _ _ (by omega) ⟨i + 1, false, by omega, rfl, hin', fun h => by simp at h, rfl, rfl, rfl, rfl, rfl, rfl, rfl, rfl, rfl⟩
      · simp (disch := first | assumption | omega | (simp only [az]; done)) only [ru, eq_self, if_true, if_false, BEq.rfl, binI, AO.row?, splice, fillL, mmAll, loadV, storeV, zeros, Am.rowAt, Am.part, addOff, Nat.reduceAdd, Nat.reduceMul, Nat.reduceLeDiff, Nat.reduceSub, Nat.reduceLT, Int.reduceEq, Int.reduceLT, Int.reduceLE, Int.reduceGT, Int.reduceGE, Int.reduceAdd, Int.reduceSub, Int.reduceMul, Int.reduceNeg, Int.reduceToNat, reduceCtorEq, reduceIte, lenV_sl H.g, view_sl H.g, scalar_sl H.g, cells_sl H.g, pure_sl H.g, lenV_sl H.p, view_sl H.p, scalar_sl H.p, cells_sl H.p, pure_sl H.p, lenV_sl W, view_sl W, scalar_sl W, cells_sl W, pure_sl W, eC, eh, Int.toNat_natCast, hlt, hlt', ← hx, s17, hw, gUn, Bool.not_true]
        refine ih (C.length - (i + 1)) _ _ _ (by omega) ⟨i + 1, (x.hi == 0), by omega, rfl, hin', fun h j hj => ?_, rfl, rfl, rfl, rfl, rfl, rfl, rfl, rfl, rfl⟩
        by_cases c : j = i
        · subst c; rw [← hx]; simpa using h
        · exact hz rfl j (by omega)
  have ei : i = n.hs.length := by omega
  rw [ei] at hin hz
  clear ih hl' q2 q5 q6 q7 q8 q9
  have hb : ∀ i, i < C.length → 0 ≤ C.getD i 0 ∧ C.getD i 0 ≤ 20 := fun i hi => by
    have a := hin i (by omega)
    have b := G.h.at (i : Int)
    simp only [Int.toNat_natCast] at b
    omega
  have W1 := slV_is (esz := 1) (enc := intL) (l := A)
  have c17 := fun st => s17' U (by omega) st
  have c41 := fun st => s41 H W1 (by omega) st
  have c51 := fun st => s51 H hv st
  have c43 := s43 H
  have CO := clm_ok OA
  have KV := resL_is (clm n)
  have K6 := ord_len G CO.1
  have i1 := fun st => s50 H KV (by omega) st
  rw [ordB_iff.2 CO.1] at i1
  have w1 := fun st => s57 H G U A6 (fun j hj => ⟨(OA.2 j hj).1, (OA.2 j hj).2.1⟩) W (by omega) hb st
  have w2 := fun st => s57 H G V B6 (fun j hj => ⟨(OB.2 j hj).1, (OB.2 j hj).2.1⟩) W (by omega) hb st
  have w3 := fun st => s52 H G U A6 (fun j hj => ⟨(OA.2 j hj).1, (OA.2 j hj).2.1⟩) st
  have W2 := slV_is (esz := 1) (enc := intL) (l := clm n)
  have c17k := fun st => s17' KV (by omega) st
  have c41k := fun st => s41 H W2 (by omega) st
  have b1 := regr_bd G A6
  have b2 := regr_bd G K6
  have b3 := CO.2
  have b4 := regr_truth (n := n) (l := A) (m := B) (r := fun x => C.getD x.toNat 0) (fun x x0 x1 => by
    have := hin x.toNat (by omega)
    unfold loR hiR; exact this) OB
  have b5 : regr n A = 0 → worst n A = lea n := regr_zero G OA
  have b6 : z = true → regr n A = 0 := fun h => regr_none G fun x x0 x1 => by
    unfold hiR; exact hz h x.toNat (by omega)
  have t1 : ∀ L, isO n L → 0 ≤ los n (fun x => C.getD x.toNat 0) L ∧ los n (fun x => C.getD x.toNat 0) L ≤ 12000 := fun L O => by
    have h := sm_bd (f := lterm n (fun x => C.getD x.toNat 0) L) (b := 2000) (l := ofN (List.range n.hs.length)) fun x hx => by
      obtain ⟨x0, x1⟩ := mem_rng.1 hx
      obtain ⟨a, b⟩ := ord_pos G O x0 x1
      have c := G.h.at x
      have d := hb x.toNat (by omega)
      have e := (term_bd (r := C.getD x.toNat 0) (d := (tms n L).getD x.toNat 0 - (n.hs.getD x.toNat default).f) d.1 d.2 (by omega) (by omega)).2
      exact ⟨Int.mul_nonneg d.1 a, e⟩
    rw [rng_len] at h
    show 0 ≤ sm _ ∧ sm _ ≤ _
    exact ⟨h.1, by have := h.2; exact Int.le_trans this (by omega)⟩
  have t2 := t1 A OA
  have t3 := t1 B OB
  have r1 : rgtR n A = .tup [I (regr n A), I 0] := by unfold rgtR; rw [hv, hoA]; rfl
  have r2 : rgtR n (clm n) = .tup [I (regr n (clm n)), I 0] := by unfold rgtR; rw [hv, ordB_iff.2 CO.1]; rfl
  have r3 : calR n = .tup [resL (clm n), I 0] := by unfold calR; rw [hv]; rfl
  rw [r1] at c41
  rw [r2] at c41k
  rw [r3] at c43
  simp only [netV] at c41 c51 c43 i1 w1 w2 w3 c41k
  obtain ⟨K, hK⟩ : ∃ q, q = regr n A := ⟨_, rfl⟩
  obtain ⟨K2, hK2⟩ : ∃ q, q = regr n (clm n) := ⟨_, rfl⟩
  obtain ⟨kv, hkv⟩ : ∃ q, q = resL (clm n) := ⟨_, rfl⟩
  obtain ⟨X, hX⟩ : ∃ q, q = los n (fun x => C.getD x.toNat 0) A := ⟨_, rfl⟩
  obtain ⟨Y, hY⟩ : ∃ q, q = los n (fun x => C.getD x.toNat 0) B := ⟨_, rfl⟩
  obtain ⟨Z, hZ⟩ : ∃ q, q = lea n := ⟨_, rfl⟩
  obtain ⟨D, hD⟩ : ∃ q, q = don n := ⟨_, rfl⟩
  obtain ⟨R, hR⟩ : ∃ q, q = worst n A := ⟨_, rfl⟩
  obtain ⟨av, hav⟩ : ∃ q, q = slV 1 intL A := ⟨_, rfl⟩
  obtain ⟨ak, hak⟩ : ∃ q, q = slV 1 intL (clm n) := ⟨_, rfl⟩
  rw [← hK] at b1 b3 b4 b5 b6
  rw [← hK2] at b2 b3
  rw [← hX, ← hY] at b4
  rw [← hX] at t2
  rw [← hY] at t3
  rw [← hR, ← hZ] at b5
  rw [← hkv] at KV
  rw [← hav] at W1
  rw [← hak] at W2
  simp only [← hK, ← hK2, ← hkv, ← hX, ← hY, ← hZ, ← hD, ← hR, ← hav, ← hak] at c17 c41 c51 c43 i1 w1 w2 w3 c17k c41k
  have q1 : ¬ K < 0 := by omega
  have q2 : ¬ K > 100000 := by omega
  have q3 : ¬ X - Y > K := by omega
  have q4 : K2 ≥ 0 := by omega
  have q5 : K2 ≤ K := by omega
  simp (disch := first | assumption | omega | (simp only [az]; done)) only [ru, eq_self, if_true, if_false, BEq.rfl, binI, AO.row?, splice, fillL, mmAll, loadV, storeV, zeros, Am.rowAt, Am.part, addOff, Nat.reduceAdd, Nat.reduceMul, Nat.reduceLeDiff, Nat.reduceSub, Nat.reduceLT, Int.reduceEq, Int.reduceLT, Int.reduceLE, Int.reduceGT, Int.reduceGE, Int.reduceAdd, Int.reduceSub, Int.reduceMul, Int.reduceNeg, Int.reduceToNat, reduceCtorEq, reduceIte, lenV_sl H.g, view_sl H.g, scalar_sl H.g, cells_sl H.g, pure_sl H.g, lenV_sl H.p, view_sl H.p, scalar_sl H.p, cells_sl H.p, pure_sl H.p, lenV_sl U, view_sl U, scalar_sl U, cells_sl U, pure_sl U, lenV_sl V, view_sl V, scalar_sl V, cells_sl V, pure_sl V, lenV_sl W, view_sl W, scalar_sl W, cells_sl W, pure_sl W, lenV_sl W1, view_sl W1, scalar_sl W1, cells_sl W1, pure_sl W1, lenV_sl KV, view_sl KV, scalar_sl KV, cells_sl KV, pure_sl KV, hlt, c17, c41, c51, c43, gUn, decide_false, Bool.not_true, bne_self_eq_false]
  cases z with
  | true =>
    have k0 := b6 rfl
    have q6 : ¬ K > 0 := by omega
    have q7 : (K == 0) = true := by simp [k0]
    have q8 : (R != Z) = false := by rw [b5 k0]; exact bne_self_eq_false Z
    simp (disch := first | assumption | omega | (simp only [az]; done)) only [ru, eq_self, if_true, if_false, BEq.rfl, binI, AO.row?, splice, fillL, mmAll, loadV, storeV, zeros, Am.rowAt, Am.part, addOff, Nat.reduceAdd, Nat.reduceMul, Nat.reduceLeDiff, Nat.reduceSub, Nat.reduceLT, Int.reduceEq, Int.reduceLT, Int.reduceLE, Int.reduceGT, Int.reduceGE, Int.reduceAdd, Int.reduceSub, Int.reduceMul, Int.reduceNeg, Int.reduceToNat, reduceCtorEq, reduceIte, lenV_sl H.g, view_sl H.g, scalar_sl H.g, cells_sl H.g, pure_sl H.g, lenV_sl H.p, view_sl H.p, scalar_sl H.p, cells_sl H.p, pure_sl H.p, lenV_sl U, view_sl U, scalar_sl U, cells_sl U, pure_sl U, lenV_sl V, view_sl V, scalar_sl V, cells_sl V, pure_sl V, lenV_sl W, view_sl W, scalar_sl W, cells_sl W, pure_sl W, lenV_sl KV, view_sl KV, scalar_sl KV, cells_sl KV, pure_sl KV, lenV_sl W2, view_sl W2, scalar_sl W2, cells_sl W2, pure_sl W2, i1, w1, w2, w3, q1, q2, q3, q6, q7, q8, c17k, c41k, gUn, decide_false, Bool.not_true, bne_self_eq_false]
    simp (disch := first | assumption | omega | (simp only [az]; done)) only [ru, eq_self, if_true, if_false, BEq.rfl, binI, AO.row?, splice, fillL, mmAll, loadV, storeV, zeros, Am.rowAt, Am.part, addOff, Nat.reduceAdd, Nat.reduceMul, Nat.reduceLeDiff, Nat.reduceSub, Nat.reduceLT, Int.reduceEq, Int.reduceLT, Int.reduceLE, Int.reduceGT, Int.reduceGE, Int.reduceAdd, Int.reduceSub, Int.reduceMul, Int.reduceNeg, Int.reduceToNat, reduceCtorEq, reduceIte, lenV_sl H.g, view_sl H.g, scalar_sl H.g, cells_sl H.g, pure_sl H.g, lenV_sl H.p, view_sl H.p, scalar_sl H.p, cells_sl H.p, pure_sl H.p, q4, q5, gUn, decide_true, beq_self_eq_true, s15]
  | false =>
    by_cases k0 : K = 0
    · have q7 : (K == 0) = true := by simp [k0]
      have q8 : (R != Z) = false := by rw [b5 k0]; exact bne_self_eq_false Z
      simp (disch := first | assumption | omega | (simp only [az]; done)) only [ru, eq_self, if_true, if_false, BEq.rfl, binI, AO.row?, splice, fillL, mmAll, loadV, storeV, zeros, Am.rowAt, Am.part, addOff, Nat.reduceAdd, Nat.reduceMul, Nat.reduceLeDiff, Nat.reduceSub, Nat.reduceLT, Int.reduceEq, Int.reduceLT, Int.reduceLE, Int.reduceGT, Int.reduceGE, Int.reduceAdd, Int.reduceSub, Int.reduceMul, Int.reduceNeg, Int.reduceToNat, reduceCtorEq, reduceIte, lenV_sl H.g, view_sl H.g, scalar_sl H.g, cells_sl H.g, pure_sl H.g, lenV_sl H.p, view_sl H.p, scalar_sl H.p, cells_sl H.p, pure_sl H.p, lenV_sl U, view_sl U, scalar_sl U, cells_sl U, pure_sl U, lenV_sl V, view_sl V, scalar_sl V, cells_sl V, pure_sl V, lenV_sl W, view_sl W, scalar_sl W, cells_sl W, pure_sl W, lenV_sl KV, view_sl KV, scalar_sl KV, cells_sl KV, pure_sl KV, lenV_sl W2, view_sl W2, scalar_sl W2, cells_sl W2, pure_sl W2, i1, w1, w2, w3, q1, q2, q3, q7, q8, c17k, c41k, gUn, decide_false, Bool.not_true, bne_self_eq_false]
      simp (disch := first | assumption | omega | (simp only [az]; done)) only [ru, eq_self, if_true, if_false, BEq.rfl, binI, AO.row?, splice, fillL, mmAll, loadV, storeV, zeros, Am.rowAt, Am.part, addOff, Nat.reduceAdd, Nat.reduceMul, Nat.reduceLeDiff, Nat.reduceSub, Nat.reduceLT, Int.reduceEq, Int.reduceLT, Int.reduceLE, Int.reduceGT, Int.reduceGE, Int.reduceAdd, Int.reduceSub, Int.reduceMul, Int.reduceNeg, Int.reduceToNat, reduceCtorEq, reduceIte, lenV_sl H.g, view_sl H.g, scalar_sl H.g, cells_sl H.g, pure_sl H.g, lenV_sl H.p, view_sl H.p, scalar_sl H.p, cells_sl H.p, pure_sl H.p, q4, q5, gUn, decide_true, beq_self_eq_true, s15]
    · have q7 : (K == 0) = false := by simp [k0]
      simp (disch := first | assumption | omega | (simp only [az]; done)) only [ru, eq_self, if_true, if_false, BEq.rfl, binI, AO.row?, splice, fillL, mmAll, loadV, storeV, zeros, Am.rowAt, Am.part, addOff, Nat.reduceAdd, Nat.reduceMul, Nat.reduceLeDiff, Nat.reduceSub, Nat.reduceLT, Int.reduceEq, Int.reduceLT, Int.reduceLE, Int.reduceGT, Int.reduceGE, Int.reduceAdd, Int.reduceSub, Int.reduceMul, Int.reduceNeg, Int.reduceToNat, reduceCtorEq, reduceIte, lenV_sl H.g, view_sl H.g, scalar_sl H.g, cells_sl H.g, pure_sl H.g, lenV_sl H.p, view_sl H.p, scalar_sl H.p, cells_sl H.p, pure_sl H.p, lenV_sl U, view_sl U, scalar_sl U, cells_sl U, pure_sl U, lenV_sl V, view_sl V, scalar_sl V, cells_sl V, pure_sl V, lenV_sl W, view_sl W, scalar_sl W, cells_sl W, pure_sl W, lenV_sl KV, view_sl KV, scalar_sl KV, cells_sl KV, pure_sl KV, lenV_sl W2, view_sl W2, scalar_sl W2, cells_sl W2, pure_sl W2, i1, w1, w2, w3, q1, q2, q3, q7, c17k, c41k, gUn, decide_false, Bool.not_true, bne_self_eq_false]
      simp (disch := first | assumption | omega | (simp only [az]; done)) only [ru, eq_self, if_true, if_false, BEq.rfl, binI, AO.row?, splice, fillL, mmAll, loadV, storeV, zeros, Am.rowAt, Am.part, addOff, Nat.reduceAdd, Nat.reduceMul, Nat.reduceLeDiff, Nat.reduceSub, Nat.reduceLT, Int.reduceEq, Int.reduceLT, Int.reduceLE, Int.reduceGT, Int.reduceGE, Int.reduceAdd, Int.reduceSub, Int.reduceMul, Int.reduceNeg, Int.reduceToNat, reduceCtorEq, reduceIte, lenV_sl H.g, view_sl H.g, scalar_sl H.g, cells_sl H.g, pure_sl H.g, lenV_sl H.p, view_sl H.p, scalar_sl H.p, cells_sl H.p, pure_sl H.p, q4, q5, gUn, decide_true, beq_self_eq_true, s15]
end
end Go.Proofs.Ytmmibahjjeldgaa.S

