/-
The specification: Whole, Price and Rank.
-/
import Derived.Test.YteonklnjchefiaaZc
namespace Go.Proofs.Yteonklnjchefiaa.S
open Go Go.Am Go.Proofs.Yteonklnjchefiaa.T
set_option maxRecDepth 100000
set_option linter.unusedSimpArgs false
set_option linter.unusedVariables false

section
variable {t : List Pt} {v : AV}
theorem zer_rw (k : Nat) : (List.replicate k [I 0]).flatten = rw_ k fun _ => 0 := by
  have e : rng k (fun _ => 0) = List.replicate k 0 := by
    refine List.ext_getElem (by simp [rng]) fun i h1 h2 => by simp [rng]
  rw [rw_, e]
  induction k with
  | zero => rfl
  | succ k ih => rw [List.replicate_succ, List.replicate_succ, List.flatten_cons, List.flatMap_cons, ih (by
      refine List.ext_getElem (by simp [rng]) fun i h1 h2 => by simp [rng])]
set_option maxHeartbeats 2000000 in
theorem s56 (H : TbOk t v) (st : Bool) : Iso E 56 [v] st = some (askR t true (rW t)) := by
  have sp := H.n
  have g2 := fun q st => s91 H q st
  refine Iso_of (es _ _ _ _) e56 ?_
  simp only [f56, askR, erR]
  cases hv : tval t
  · simp only [knE, hv, Bool.false_eq_true, if_false] at g2
    simp (disch := first | assumption | omega | (simp only [az]; done)) only [ru, eq_self, if_true, if_false, BEq.rfl, binI, AO.row?, splice, fillL, mmAll, loadV, storeV, zeros, Am.rowAt, Am.part, addOff, Nat.reduceAdd, Nat.reduceMul, Nat.reduceLeDiff, Nat.reduceSub, Nat.reduceLT, Int.reduceEq, Int.reduceLT, Int.reduceLE, Int.reduceGT, Int.reduceGE, Int.reduceAdd, Int.reduceSub, Int.reduceMul, Int.reduceNeg, Int.reduceToNat, reduceCtorEq, reduceIte, lenV_sl H.i, elem_pt H.i, view_sl H.i, scalar_sl H.i, cells_sl H.i, pure_sl H.i, Int.toNat_natCast, g2, decide_true, decide_false, Bool.false_eq_true, finC2, getRes, Option.some.injEq, exists_eq_left']
    done
  have T := tval_W hv
  have n8 := T.n
  simp only [btw]
  cases h1 : is1 t
  · simp only [knE, hv, h1, Bool.false_eq_true, if_true, if_false] at g2
    simp (disch := first | assumption | omega | (simp only [az]; done)) only [ru, eq_self, if_true, if_false, BEq.rfl, binI, AO.row?, splice, fillL, mmAll, loadV, storeV, zeros, Am.rowAt, Am.part, addOff, Nat.reduceAdd, Nat.reduceMul, Nat.reduceLeDiff, Nat.reduceSub, Nat.reduceLT, Int.reduceEq, Int.reduceLT, Int.reduceLE, Int.reduceGT, Int.reduceGE, Int.reduceAdd, Int.reduceSub, Int.reduceMul, Int.reduceNeg, Int.reduceToNat, reduceCtorEq, reduceIte, lenV_sl H.i, elem_pt H.i, view_sl H.i, scalar_sl H.i, cells_sl H.i, pure_sl H.i, Int.toNat_natCast, g2, decide_true, decide_false, Bool.false_eq_true, finC2, getRes, Option.some.injEq, exists_eq_left']
    done
  simp only [knE, hv, h1, Bool.false_eq_true, if_true, if_false] at g2
  have mk2 : (8 : Int) * t.length ≤ 140737488355328 := by omega
  have zz := zer_rw t.length
  simp (disch := first | assumption | omega | (simp only [az]; done)) only [ru, eq_self, if_true, if_false, BEq.rfl, binI, AO.row?, splice, fillL, mmAll, loadV, storeV, zeros, Am.rowAt, Am.part, addOff, Nat.reduceAdd, Nat.reduceMul, Nat.reduceLeDiff, Nat.reduceSub, Nat.reduceLT, Int.reduceEq, Int.reduceLT, Int.reduceLE, Int.reduceGT, Int.reduceGE, Int.reduceAdd, Int.reduceSub, Int.reduceMul, Int.reduceNeg, Int.reduceToNat, reduceCtorEq, reduceIte, lenV_sl H.i, elem_pt H.i, view_sl H.i, scalar_sl H.i, cells_sl H.i, pure_sl H.i, Int.toNat_natCast, g2, decide_true, decide_false, exOp_mk, nn, Int.le_refl, mk2, zz]
  refine G_loop_ind (fun m ts hh mk => ∃ j : Nat, j ≤ t.length ∧ m = t.length - j ∧ ts.length = 34 ∧ ts.getD 0 .undef = v ∧ ts.getD 2 .undef = .ptr 0 0 ∧ ts.getD 3 .undef = I 0 ∧ ts.getD 5 .undef = .ms 1 1 0 t.length ∧ ts.getD 6 .undef = I j ∧ hh = [.cells [I 0, I 0] false, .cells (rw_ t.length fun i => if i < j then rW t i else 0) false] ∧ mk = []) ?_ _ _ _ _
    ⟨0, Nat.zero_le _, rfl, rfl, rfl, rfl, rfl, rfl, rfl, rfl, rfl⟩
  rintro m ts hh mk ih ⟨j, hj, rfl, hl', q0, q2, q3, q5, q6, rfl, rfl⟩
  rw [lit_all hl']
  simp only [lit0, litS, Nat.reduceAdd, q0, q2, q3, q5, q6]
  by_cases hlt : (j : Int) < t.length
  case neg =>
    obtain rfl : j = t.length := by omega
    have e : (rw_ t.length fun i => if i < t.length then rW t i else 0) = rw_ t.length (rW t) := rw_congr fun i hi => if_pos hi
    rw [e]
    have hc : ([.cells [I 0, I 0] false, .cells (rw_ t.length (rW t)) false] : List AO)[1]? = some (.cells (rw_ t.length (rW t)) false) := rfl
    have vw := RdC.view (enc := intL) (esz := 1) (l := rng t.length (rW t)) (w := .ms 1 1 0 t.length) ⟨1, by rw [rng_len], hc⟩ intE intIv (st := false) (k := 7)
    have UV := slV_is (esz := 1) (enc := intL) (l := rng t.length (rW t))
    obtain ⟨u, hu⟩ : ∃ u, u = slV 1 intL (rng t.length (rW t)) := ⟨_, rfl⟩
    rw [← hu] at vw UV
    have g4 := fun st => s94 H T h1 (rW_b (t := t)) UV st
    obtain ⟨RW, hRW⟩ : ∃ RW, RW = rw_ t.length (rW t) := ⟨_, rfl⟩
    rw [← hRW] at vw ⊢
    simp (disch := first | assumption | omega | (simp only [az]; done)) only [ru, eq_self, if_true, if_false, BEq.rfl, binI, AO.row?, splice, fillL, mmAll, loadV, storeV, zeros, Am.rowAt, Am.part, addOff, Nat.reduceAdd, Nat.reduceMul, Nat.reduceLeDiff, Nat.reduceSub, Nat.reduceLT, Int.reduceEq, Int.reduceLT, Int.reduceLE, Int.reduceGT, Int.reduceGE, Int.reduceAdd, Int.reduceSub, Int.reduceMul, Int.reduceNeg, Int.reduceToNat, reduceCtorEq, reduceIte, lenV_sl H.i, elem_pt H.i, view_sl H.i, scalar_sl H.i, cells_sl H.i, pure_sl H.i, Int.toNat_natCast, lenV_sl UV, elem_in UV, view_sl UV, scalar_sl UV, cells_sl UV, pure_sl UV, Int.toNat_natCast, hlt, decide_false, vw, g4, finC2, getRes, Option.some.injEq, exists_eq_left']
    done
  have hj2 : j < t.length := by omega
  obtain ⟨x, hx⟩ : ∃ x, x = t.getD j default := ⟨_, rfl⟩
  have rs : rW t j = if x.of = -1 then 1 else 0 := by
    unfold rW
    rw [← hx]
    by_cases c : x.of = -1
    · rw [if_pos ⟨hj2, c⟩, if_pos c]
    · rw [if_neg (fun h => c h.2), if_neg c]
  obtain ⟨Z, hZ⟩ : ∃ Z, Z = rw_ t.length fun i => if i < j then rW t i else 0 := ⟨_, rfl⟩
  have zl : Z.length = t.length := by rw [hZ, rw_len]
  by_cases c : x.of = -1
  case neg =>
    rw [if_neg c] at rs
    have rp : Z = rw_ t.length fun i => if i < j + 1 then rW t i else 0 := by
      rw [hZ]
      refine rw_congr fun i hi => ?_
      by_cases e : i = j
      · subst e; rw [if_neg (by omega), if_pos (by omega), rs]
      · by_cases e2 : i < j
        · rw [if_pos e2, if_pos (by omega)]
        · rw [if_neg e2, if_neg (by omega)]
    rw [← hZ]
    simp (disch := first | assumption | omega | (simp only [az]; done)) only [ru, eq_self, if_true, if_false, BEq.rfl, binI, AO.row?, splice, fillL, mmAll, loadV, storeV, zeros, Am.rowAt, Am.part, addOff, Nat.reduceAdd, Nat.reduceMul, Nat.reduceLeDiff, Nat.reduceSub, Nat.reduceLT, Int.reduceEq, Int.reduceLT, Int.reduceLE, Int.reduceGT, Int.reduceGE, Int.reduceAdd, Int.reduceSub, Int.reduceMul, Int.reduceNeg, Int.reduceToNat, reduceCtorEq, reduceIte, lenV_sl H.i, elem_pt H.i, view_sl H.i, scalar_sl H.i, cells_sl H.i, pure_sl H.i, Int.toNat_natCast, hlt, decide_true, decide_false, nn, ← hx, c]
    exact ih (t.length - (j + 1)) _ _ _ (by omega) ⟨j + 1, by omega, rfl, rfl, rfl, rfl, rfl, rfl, rfl, by rw [rp], rfl⟩
  rw [if_pos c] at rs
  have zp : Z.take j ++ I 1 :: Z.drop (j + 1) = rw_ t.length fun i => if i < j + 1 then rW t i else 0 := by
    have : Z.take j ++ [I 1] ++ Z.drop (j + 1) = rw_ t.length fun i => if i < j + 1 then rW t i else 0 := by
      rw [hZ]
      refine rw_put hj2 fun i hi => ?_
      by_cases e : i = j
      · subst e; rw [if_pos rfl, if_pos (by omega), rs]
      · rw [if_neg e]; by_cases e2 : i < j
        · rw [if_pos e2, if_pos (by omega)]
        · rw [if_neg e2, if_neg (by omega)]
    simpa using this
  have fit : j + 1 ≤ Z.length := by omega
  rw [← hZ]
  simp (disch := first | assumption | omega | (simp only [az]; done)) only [ru, eq_self, if_true, if_false, BEq.rfl, binI, AO.row?, splice, fillL, mmAll, loadV, storeV, zeros, Am.rowAt, Am.part, addOff, Nat.reduceAdd, Nat.reduceMul, Nat.reduceLeDiff, Nat.reduceSub, Nat.reduceLT, Int.reduceEq, Int.reduceLT, Int.reduceLE, Int.reduceGT, Int.reduceGE, Int.reduceAdd, Int.reduceSub, Int.reduceMul, Int.reduceNeg, Int.reduceToNat, reduceCtorEq, reduceIte, lenV_sl H.i, elem_pt H.i, view_sl H.i, scalar_sl H.i, cells_sl H.i, pure_sl H.i, Int.toNat_natCast, hlt, decide_true, ← hx, c, elemAt_ms, nn, Int.toNat_natCast, Nat.mul_one, Nat.zero_add, fit, List.append_assoc, zp]
  exact ih (t.length - (j + 1)) _ _ _ (by omega) ⟨j + 1, by omega, rfl, rfl, rfl, rfl, rfl, rfl, rfl, rfl, rfl⟩
end
end Go.Proofs.Yteonklnjchefiaa.S

