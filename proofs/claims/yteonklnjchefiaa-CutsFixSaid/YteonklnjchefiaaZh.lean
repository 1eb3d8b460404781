/-
CutsFix.
-/
import Derived.Test.YteonklnjchefiaaZg
namespace Go.Proofs.Yteonklnjchefiaa.S
open Go Go.Am Go.Proofs.Yteonklnjchefiaa.T
set_option maxRecDepth 100000
set_option linter.unusedSimpArgs false
set_option linter.unusedVariables false

section
variable {t : List Pt} {v : AV}
theorem chaR_is : ∃ a e, chaR t = .tup [I a, I e] := by
  unfold chaR
  cases tval t
  · exact ⟨_, _, rfl⟩
  cases Lst t (cD t) <;> exact ⟨_, _, rfl⟩
theorem fixR_is : ∃ l e, fixR t = .tup [resL l, I e] ∧ l.length ≤ 41 + t.length := by
  unfold fixR
  cases tval t
  · exact ⟨[], _, rfl, by simp⟩
  cases Lst t (cD t)
  · exact ⟨[], _, rfl, by simp⟩
  · exact ⟨fixV t, _, rfl, by rw [fixU_len]; omega⟩
theorem chdR_is (i : Int) : ∃ a e, chdR t i = .tup [I a, I e] := by
  unfold chdR
  cases tval t
  · exact ⟨_, _, rfl⟩
  cases inR i 0 (t.length - 1)
  · exact ⟨_, _, rfl⟩
  cases Lst t (cD t) <;> exact ⟨_, _, rfl⟩
set_option maxHeartbeats 8000000 in
theorem s13 (H0 : TbIn t v) (n : Int) : Iso E 13 [v, I n] false = some (Bo true) := by
  refine Iso_of (es _ _ _ _) e13 ?_
  simp only [f13]
  by_cases c1 : (t.length : Int) > 40
  · simp (disch := first | assumption | omega | (simp only [az]; done)) only [ru, eq_self, if_true, if_false, BEq.rfl, binI, AO.row?, splice, fillL, mmAll, loadV, storeV, zeros, Am.rowAt, Am.part, addOff, Nat.reduceAdd, Nat.reduceMul, Nat.reduceLeDiff, Nat.reduceSub, Nat.reduceLT, Int.reduceEq, Int.reduceLT, Int.reduceLE, Int.reduceGT, Int.reduceGE, Int.reduceAdd, Int.reduceSub, Int.reduceMul, Int.reduceNeg, Int.reduceToNat, reduceCtorEq, reduceIte, lenV_sl H0.i, elem_pt H0.i, view_sl H0.i, scalar_sl H0.i, cells_sl H0.i, pure_sl H0.i, Int.toNat_natCast, c1, s18, gUn, decide_true]
    done
  have H : TbOk t v := ⟨H0.i, by omega⟩
  have a42 := fun st => s42 H st
  obtain ⟨ov, hov⟩ : ∃ ov, ov = slV 6 Pt.e t := ⟨_, rfl⟩
  rw [← hov] at a42
  have HO : TbOk t ov := ⟨by rw [hov]; exact slV_is, H.n⟩
  have a43 := fun st => s43 HO st
  have a58 := fun st => s58 H st
  have a39 := s39 HO
  have a59 := fun st => s59 H st
  have a45 := fun st => s45 HO n st
  have a60 := fun st => s60 H n st
  have a57 := fun st => s57 HO H st
  obtain ⟨x1, x2, hx⟩ := chaR_is (t := t)
  obtain ⟨l, y2, hy, hl⟩ := fixR_is (t := t)
  obtain ⟨z1, z2, hz⟩ := chdR_is (t := t) n
  rw [hx] at a43 a58
  rw [hy] at a39 a59
  rw [hz] at a45 a60
  have LV := resL_is l
  obtain ⟨lv, hlv⟩ : ∃ lv, lv = resL l := ⟨_, rfl⟩
  rw [← hlv] at a39 a59 LV
  have n41 := H.n
  have a50 := fun st => s50 LV LV (by omega) st
  simp (disch := first | assumption | omega | (simp only [az]; done)) only [ru, eq_self, if_true, if_false, BEq.rfl, binI, AO.row?, splice, fillL, mmAll, loadV, storeV, zeros, Am.rowAt, Am.part, addOff, Nat.reduceAdd, Nat.reduceMul, Nat.reduceLeDiff, Nat.reduceSub, Nat.reduceLT, Int.reduceEq, Int.reduceLT, Int.reduceLE, Int.reduceGT, Int.reduceGE, Int.reduceAdd, Int.reduceSub, Int.reduceMul, Int.reduceNeg, Int.reduceToNat, reduceCtorEq, reduceIte, lenV_sl H.i, elem_pt H.i, view_sl H.i, scalar_sl H.i, cells_sl H.i, pure_sl H.i, Int.toNat_natCast, lenV_sl HO.i, elem_pt HO.i, view_sl HO.i, scalar_sl HO.i, cells_sl HO.i, pure_sl HO.i, Int.toNat_natCast, lenV_sl LV, elem_in LV, view_sl LV, scalar_sl LV, cells_sl LV, pure_sl LV, Int.toNat_natCast, c1, a42, a43, a58, a39, a59, a45, a60, a50, a57, s18, gUn, decide_true, decide_false, Bool.not_true, Bool.and_true]
  done
end
end Go.Proofs.Yteonklnjchefiaa.S

