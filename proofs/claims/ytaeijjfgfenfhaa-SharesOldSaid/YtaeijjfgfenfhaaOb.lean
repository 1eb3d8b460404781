/-
Ask, and the law of old payments.
-/
import Derived.Test.YtaeijjfgfenfhaaOa
namespace Go.Proofs.Ytaeijjfgfenfhaa.S
open Go Go.Am Go.Proofs.Ytaeijjfgfenfhaa.T
set_option maxRecDepth 100000
set_option linter.unusedSimpArgs false
set_option linter.unusedVariables false

section
variable {C : List Nd} {v : AV} (hv : IsSl 3 Nd.e C v)
include hv
set_option maxHeartbeats 1000000 in
theorem t43 (hl : C.length ≤ 1000) (i : Int) {L : List Py} {pv : AV} (V : IsSl 3 Py.e L pv) (hL : L.length ≤ 1000) (st : Bool) : Iso E 43 [cuV v, I i, pv] st = some (ansN (wtE C i L) (frA 400 fun p => apt C i.toNat p (wtL C i.toNat L 10))) := by
  refine Iso_of (es _ _ _ _) e43 ?_
  simp only [f43]
  have h41 := fun st => t41 hv hl i V hL st
  unfold ansN
  by_cases h0 : wtE C i L = 0
  · have hf : fitE C (inR i 0 (C.length - 1) && decide (i ≠ 0)) L = 0 := by
      unfold wtE at h0
      simp only at h0
      split at h0
      · exact h0
      · rename_i h; simpa using h
    obtain ⟨H, hb, _, hp⟩ := fit_ok hf
    simp only [Bool.and_eq_true, decide_eq_true_eq] at hb
    have hi' := inR_iff.1 hb.1
    obtain ⟨j, rfl⟩ : ∃ q : Nat, i = q := ⟨i.toNat, by omega⟩
    have hb1 : ((0 : Int) != 0) = false := rfl
    unfold ansL at h41
    rw [h0] at h41 ⊢
    simp only [if_true, Int.toNat_natCast] at h41 ⊢
    have rl := resL_is (wtL C j L 10)
    have wb := wtL_bd (C := C) (j := j) (L := L)
    obtain ⟨wv, hwv⟩ : ∃ wv, wv = resL (wtL C j L 10) := ⟨_, rfl⟩
    rw [← hwv] at h41 rl
    simp (disch := first | assumption | omega | (simp only [az]; done)) only [ru, eq_self, if_true, if_false, BEq.rfl, binI, AO.row?, splice, fillL, mmAll, loadV, storeV, zeros, Am.rowAt, Am.part, addOff, Nat.reduceAdd, Nat.reduceMul, Nat.reduceLeDiff, Nat.reduceSub, Nat.reduceLT, Int.reduceEq, Int.reduceLT, Int.reduceLE, Int.reduceGT, Int.reduceGE, Int.reduceAdd, Int.reduceSub, Int.reduceMul, Int.reduceNeg, Int.reduceToNat, reduceCtorEq, reduceIte, lenV_sl hv, view_sl hv, scalar_sl hv, cells_sl hv, pure_sl hv, lenV_sl V, view_sl V, scalar_sl V, cells_sl V, pure_sl V, h41, hb1]
    refine G_loop_ind (fun y ts hk mk => ∃ i : Nat, i ≤ 401 ∧ y = 401 - i ∧ (List.range i).find? (fun p : Nat => apt C j p (wtL C j L 10)) = none ∧ hk = [.cells [v] false] ∧ ts.length = 31 ∧ ts.getD 1 .undef = I j ∧ ts.getD 3 .undef = .ptr 0 0 ∧ ts.getD 8 .undef = wv ∧ ts.getD 10 .undef = I i ∧ mk = []) ?_ 401 _ _ _ ⟨0, Nat.zero_le _, rfl, rfl, rfl, rfl, rfl, rfl, rfl, rfl, rfl⟩
    rintro y ts hk mk ih ⟨i, hi2, rfl, hall, rfl, hl', q1, q3, q8, q10, rfl⟩
    rw [lit_all hl']
    simp only [lit0, litS, Nat.reduceAdd, q1, q3, q8, q10]
    by_cases hlt : (i : Int) ≤ 400
    · have a90 := fun st => t90 hv H (j := j) (by omega) (p := (i : Int)) (by omega) (by omega) rl wb.1 (by omega) st
      cases cc : apt C j i (wtL C j L 10)
      · rw [cc] at a90
        simp (disch := first | assumption | omega | (simp only [az]; done)) only [ru, eq_self, if_true, if_false, BEq.rfl, binI, AO.row?, splice, fillL, mmAll, loadV, storeV, zeros, Am.rowAt, Am.part, addOff, Nat.reduceAdd, Nat.reduceMul, Nat.reduceLeDiff, Nat.reduceSub, Nat.reduceLT, Int.reduceEq, Int.reduceLT, Int.reduceLE, Int.reduceGT, Int.reduceGE, Int.reduceAdd, Int.reduceSub, Int.reduceMul, Int.reduceNeg, Int.reduceToNat, reduceCtorEq, reduceIte, hlt, lenV_sl hv, view_sl hv, scalar_sl hv, cells_sl hv, pure_sl hv, lenV_sl rl, view_sl rl, scalar_sl rl, cells_sl rl, pure_sl rl, a90]
        exact ih (401 - (i + 1)) _ _ _ (by omega) ⟨i + 1, by omega, rfl, find_none hall cc, rfl, rfl, rfl, rfl, rfl, rfl, rfl⟩
      · rw [cc] at a90
        simp (disch := first | assumption | omega | (simp only [az]; done)) only [ru, eq_self, if_true, if_false, BEq.rfl, binI, AO.row?, splice, fillL, mmAll, loadV, storeV, zeros, Am.rowAt, Am.part, addOff, Nat.reduceAdd, Nat.reduceMul, Nat.reduceLeDiff, Nat.reduceSub, Nat.reduceLT, Int.reduceEq, Int.reduceLT, Int.reduceLE, Int.reduceGT, Int.reduceGE, Int.reduceAdd, Int.reduceSub, Int.reduceMul, Int.reduceNeg, Int.reduceToNat, reduceCtorEq, reduceIte, hlt, lenV_sl hv, view_sl hv, scalar_sl hv, cells_sl hv, pure_sl hv, lenV_sl rl, view_sl rl, scalar_sl rl, cells_sl rl, pure_sl rl, a90]
        unfold frA frN frE; rw [find_some hall (by omega) cc]
    · obtain rfl : i = 401 := by omega
      simp (disch := first | assumption | omega | (simp only [az]; done)) only [ru, eq_self, if_true, if_false, BEq.rfl, binI, AO.row?, splice, fillL, mmAll, loadV, storeV, zeros, Am.rowAt, Am.part, addOff, Nat.reduceAdd, Nat.reduceMul, Nat.reduceLeDiff, Nat.reduceSub, Nat.reduceLT, Int.reduceEq, Int.reduceLT, Int.reduceLE, Int.reduceGT, Int.reduceGE, Int.reduceAdd, Int.reduceSub, Int.reduceMul, Int.reduceNeg, Int.reduceToNat, reduceCtorEq, reduceIte, hlt]
      unfold frA frN frE; rw [hall]
  · have hb0 : (wtE C i L != 0) = true := by simp [h0]
    unfold ansL at h41
    rw [if_neg h0] at h41
    have e0 : resL [] = .nils := rfl
    rw [e0] at h41
    simp (disch := first | assumption | omega | (simp only [az]; done)) only [ru, eq_self, if_true, if_false, BEq.rfl, binI, AO.row?, splice, fillL, mmAll, loadV, storeV, zeros, Am.rowAt, Am.part, addOff, Nat.reduceAdd, Nat.reduceMul, Nat.reduceLeDiff, Nat.reduceSub, Nat.reduceLT, Int.reduceEq, Int.reduceLT, Int.reduceLE, Int.reduceGT, Int.reduceGE, Int.reduceAdd, Int.reduceSub, Int.reduceMul, Int.reduceNeg, Int.reduceToNat, reduceCtorEq, reduceIte, lenV_sl hv, view_sl hv, scalar_sl hv, cells_sl hv, pure_sl hv, lenV_sl V, view_sl V, scalar_sl V, cells_sl V, pure_sl V, h41, hb0, h0]
set_option maxHeartbeats 1000000 in
theorem l6 (i : Int) {L : List Py} {pv : AV} (N : IsSl 3 Py.e L pv) : Iso E 6 [cuV v, I i, pv] false = some (Bo true) := by
  refine Iso_of (es _ _ _ _) e6 ?_
  simp only [f6]
  cases hf : far C
  case true => simp (disch := first | assumption | omega | (simp only [az]; done)) only [ru, eq_self, if_true, if_false, BEq.rfl, binI, AO.row?, splice, fillL, mmAll, loadV, storeV, zeros, Am.rowAt, Am.part, addOff, Nat.reduceAdd, Nat.reduceMul, Nat.reduceLeDiff, Nat.reduceSub, Nat.reduceLT, Int.reduceEq, Int.reduceLT, Int.reduceLE, Int.reduceGT, Int.reduceGE, Int.reduceAdd, Int.reduceSub, Int.reduceMul, Int.reduceNeg, Int.reduceToNat, reduceCtorEq, reduceIte, lenV_sl hv, view_sl hv, scalar_sl hv, cells_sl hv, pure_sl hv, lenV_sl N, view_sl N, scalar_sl N, cells_sl N, pure_sl N, t16 hv, hf, gUn, t17]
  have hl : C.length ≤ 1000 := by simp only [far, decide_eq_false_iff_not] at hf; omega
  by_cases h40 : (L.length : Int) > 40
  · simp (disch := first | assumption | omega | (simp only [az]; done)) only [ru, eq_self, if_true, if_false, BEq.rfl, binI, AO.row?, splice, fillL, mmAll, loadV, storeV, zeros, Am.rowAt, Am.part, addOff, Nat.reduceAdd, Nat.reduceMul, Nat.reduceLeDiff, Nat.reduceSub, Nat.reduceLT, Int.reduceEq, Int.reduceLT, Int.reduceLE, Int.reduceGT, Int.reduceGE, Int.reduceAdd, Int.reduceSub, Int.reduceMul, Int.reduceNeg, Int.reduceToNat, reduceCtorEq, reduceIte, lenV_sl hv, view_sl hv, scalar_sl hv, cells_sl hv, pure_sl hv, lenV_sl N, view_sl N, scalar_sl N, cells_sl N, pure_sl N, t16 hv, hf, gUn, h40, decide_true, t17]
  have hL : L.length ≤ 1000 := by omega
  obtain ⟨W, hW⟩ : ∃ W, W = slV 3 Nd.e C := ⟨_, rfl⟩
  have V : IsSl 3 Nd.e C W := by rw [hW]; exact slV_is
  obtain ⟨U, hU⟩ : ∃ U, U = slV 3 Py.e L := ⟨_, rfl⟩
  have P : IsSl 3 Py.e L U := by rw [hU]; exact slV_is
  have a18 := fun st => t18 hv hl st
  rw [← hW] at a18
  have a37 := fun st => t37 N hL st
  rw [← hU] at a37
  have a38 := t38 V hl P hL
  have a39 := t39 hv hl N hL
  have a40 := t40 V hl i P hL
  have a41 := fun st => t41 hv hl i N hL st
  have a42 := fun st => t42 V hl i P hL st
  have a43 := fun st => t43 hv hl i N hL st
  simp only [ansN_tup] at a42 a43
  unfold ansL at a38 a39 a40 a41
  have ne : ∀ x : Int, (x == x) = true := fun x => by simp
  obtain ⟨e1, he1⟩ : ∃ e, e = fitE C true L := ⟨_, rfl⟩
  obtain ⟨e2, he2⟩ : ∃ e, e = wtE C i L := ⟨_, rfl⟩
  rw [← he1] at a38 a39
  rw [← he2] at a40 a41 a42 a43
  have wb := wtL_bd (C := C) (j := i.toNat) (L := L)
  have m1 : (if e1 = 0 then wrL C L L.length else []).length ≤ 100000 := by
    split
    · unfold wrL; rw [ofN_len]; exact Nat.le_trans (List.length_filter_le _ _) (by simp; omega)
    · simp
  have m2 : (if e2 = 0 then wtL C i.toNat L 10 else []).length ≤ 100000 := by
    split
    · omega
    · simp
  obtain ⟨l1, h1⟩ : ∃ l, l = if e1 = 0 then wrL C L L.length else [] := ⟨_, rfl⟩
  obtain ⟨l2, h2⟩ : ∃ l, l = if e2 = 0 then wtL C i.toNat L 10 else [] := ⟨_, rfl⟩
  rw [← h1] at a38 a39 m1
  rw [← h2] at a40 a41 m2
  obtain ⟨x1, hx1⟩ : ∃ x : Int, x = if e2 = 0 then frN 400 fun p => apt C i.toNat p (wtL C i.toNat L 10) else 0 := ⟨_, rfl⟩
  obtain ⟨x2, hx2⟩ : ∃ x : Int, x = if e2 = 0 then frE 400 fun p => apt C i.toNat p (wtL C i.toNat L 10) else e2 := ⟨_, rfl⟩
  rw [← hx1, ← hx2] at a42 a43
  have r1 := resL_is l1
  have r2 := resL_is l2
  obtain ⟨w1, hw1⟩ : ∃ w, w = resL l1 := ⟨_, rfl⟩
  obtain ⟨w2, hw2⟩ : ∃ w, w = resL l2 := ⟨_, rfl⟩
  rw [← hw1] at r1 a38 a39
  rw [← hw2] at r2 a40 a41
  have b1 := fun st => t27' r1 r1 m1 st
  have b2 := fun st => t27' r2 r2 m2 st
  have a28 := fun st => t28 V hv hl st
  have a44 := fun st => t44 P N hL st
  clear he1 he2 h1 h2 hx1 hx2 hw1 hw2 hW hU
  simp (disch := first | assumption | omega | (simp only [az]; done)) only [ru, eq_self, if_true, if_false, BEq.rfl, binI, AO.row?, splice, fillL, mmAll, loadV, storeV, zeros, Am.rowAt, Am.part, addOff, Nat.reduceAdd, Nat.reduceMul, Nat.reduceLeDiff, Nat.reduceSub, Nat.reduceLT, Int.reduceEq, Int.reduceLT, Int.reduceLE, Int.reduceGT, Int.reduceGE, Int.reduceAdd, Int.reduceSub, Int.reduceMul, Int.reduceNeg, Int.reduceToNat, reduceCtorEq, reduceIte, lenV_sl hv, view_sl hv, scalar_sl hv, cells_sl hv, pure_sl hv, lenV_sl V, view_sl V, scalar_sl V, cells_sl V, pure_sl V, lenV_sl N, view_sl N, scalar_sl N, cells_sl N, pure_sl N, lenV_sl P, view_sl P, scalar_sl P, cells_sl P, pure_sl P, lenV_sl r1, view_sl r1, scalar_sl r1, cells_sl r1, pure_sl r1, lenV_sl r2, view_sl r2, scalar_sl r2, cells_sl r2, pure_sl r2, t16 hv, hf, h40, decide_false, a18, a37, ne, a38, a39, a40, a41, a42, a43, b1, b2, a28, a44, gUn, t17]
end
end Go.Proofs.Ytaeijjfgfenfhaa.S

