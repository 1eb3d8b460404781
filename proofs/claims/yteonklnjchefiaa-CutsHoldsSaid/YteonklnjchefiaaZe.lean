/-
CutsHolds and CutsPrice.
-/
import Derived.Test.YteonklnjchefiaaZd
namespace Go.Proofs.Yteonklnjchefiaa.S
open Go Go.Am Go.Proofs.Yteonklnjchefiaa.T
set_option maxRecDepth 100000
set_option linter.unusedSimpArgs false
set_option linter.unusedVariables false

section
variable {t : List Pt} {v : AV}
theorem askR_is (q : Bool) (r : Nat → Int) : ∃ a b e, askR t q r = .tup [.agg [I a, I b], I e] := by
  unfold askR btw erR
  cases tval t
  · exact ⟨_, _, _, rfl⟩
  cases q
  · exact ⟨_, _, _, rfl⟩
  cases is1 t <;> exact ⟨_, _, _, rfl⟩
theorem holR_is (l : List Int) : ∃ b e, holR t l = .tup [Bo b, I e] := by
  unfold holR
  cases tval t <;> exact ⟨_, _, rfl⟩
set_option maxHeartbeats 8000000 in
theorem s12 (H0 : TbIn t v) {l : List Int} {w : AV} (V : IsSl 1 intL l w) (n : Int) : Iso E 12 [v, w, I n] false = some (Bo true) := by
  refine Iso_of (es _ _ _ _) e12 ?_
  simp only [f12]
  by_cases c1 : (t.length : Int) > 40
  · simp (disch := first | assumption | omega | (simp only [az]; done)) only [ru, eq_self, if_true, if_false, BEq.rfl, binI, AO.row?, splice, fillL, mmAll, loadV, storeV, zeros, Am.rowAt, Am.part, addOff, Nat.reduceAdd, Nat.reduceMul, Nat.reduceLeDiff, Nat.reduceSub, Nat.reduceLT, Int.reduceEq, Int.reduceLT, Int.reduceLE, Int.reduceGT, Int.reduceGE, Int.reduceAdd, Int.reduceSub, Int.reduceMul, Int.reduceNeg, Int.reduceToNat, reduceCtorEq, reduceIte, lenV_sl H0.i, elem_pt H0.i, view_sl H0.i, scalar_sl H0.i, cells_sl H0.i, pure_sl H0.i, Int.toNat_natCast, lenV_sl V, elem_in V, view_sl V, scalar_sl V, cells_sl V, pure_sl V, Int.toNat_natCast, c1, s18, gUn, decide_true]
    done
  by_cases c2 : (l.length : Int) > 40
  · simp (disch := first | assumption | omega | (simp only [az]; done)) only [ru, eq_self, if_true, if_false, BEq.rfl, binI, AO.row?, splice, fillL, mmAll, loadV, storeV, zeros, Am.rowAt, Am.part, addOff, Nat.reduceAdd, Nat.reduceMul, Nat.reduceLeDiff, Nat.reduceSub, Nat.reduceLT, Int.reduceEq, Int.reduceLT, Int.reduceLE, Int.reduceGT, Int.reduceGE, Int.reduceAdd, Int.reduceSub, Int.reduceMul, Int.reduceNeg, Int.reduceToNat, reduceCtorEq, reduceIte, lenV_sl H0.i, elem_pt H0.i, view_sl H0.i, scalar_sl H0.i, cells_sl H0.i, pure_sl H0.i, Int.toNat_natCast, lenV_sl V, elem_in V, view_sl V, scalar_sl V, cells_sl V, pure_sl V, Int.toNat_natCast, c1, c2, s18, gUn, decide_true, decide_false]
    done
  have H : TbOk t v := ⟨H0.i, by omega⟩
  have a42 := fun st => s42 H st
  have a53 := fun st => s53 H st
  obtain ⟨ov, hov⟩ : ∃ ov, ov = slV 6 Pt.e t := ⟨_, rfl⟩
  rw [← hov] at a42
  have HO : TbOk t ov := ⟨by rw [hov]; exact slV_is, H.n⟩
  obtain ⟨lw, h3, A3, fr3, R3⟩ := cpyV (eb := 8) (lim := 0) (h := ([] : List AO)) V intE intSc (by omega) (by omega) (Nat.zero_le _)
  simp only [List.nil_append, List.length_nil] at A3
  have vw3 := R3.view intE intIv (st := false) (k := 7)
  have sc3 := R3.sc
  obtain ⟨lv, hlv⟩ : ∃ lv, lv = slV 1 intL l := ⟨_, rfl⟩
  have LV : IsSl 1 intL l lv := by rw [hlv]; exact slV_is
  rw [← hlv] at vw3
  have a21 := fun st => s21 HO LV (by omega) st
  have a51 : ∀ st, Iso E 51 [v, w] st = some (holR t l) := fun st => s51_21 H V st
  have a52 := fun st => s52 HO st
  have a50 := fun st => s50 LV V (by omega) st
  have a32 := fun st => s32 HO n st
  have a54 := fun st => s54 H n st
  have a23 := fun st => s23 HO n st
  have a55 := fun st => s55 H n st
  have a20 := fun st => s20 HO st
  have a56 := fun st => s56 H st
  have a57 := fun st => s57 HO H st
  obtain ⟨b, e, he⟩ := holR_is (t := t) l
  obtain ⟨x1, x2, x3, hx⟩ := askR_is (t := t) (inR n 0 (t.length - 1)) (rA n.toNat)
  obtain ⟨y1, y2, y3, hy⟩ := askR_is (t := t) (inR n 0 (t.length - 1) && canC t n) (rL t n.toNat)
  obtain ⟨z1, z2, z3, hz⟩ := askR_is (t := t) true (rW t)
  rw [he] at a21 a51
  rw [hx] at a32 a54
  rw [hy] at a23 a55
  rw [hz] at a20 a56
  obtain ⟨k, hk⟩ : ∃ k : Int, k = if tval t then 0 else 70 := ⟨_, rfl⟩
  rw [← hk] at a52 a53
  have u3 : ∀ J : List AO, Am.view false (h3 ++ J) 8 lw = some lv := fun J => by
    have := (R3.fr (Fr.app h3 J)).view intE intIv (st := false) (k := 7)
    rw [← hlv] at this; exact this
  simp (disch := first | assumption | omega | (simp only [az]; done)) only [ru, eq_self, if_true, if_false, BEq.rfl, binI, AO.row?, splice, fillL, mmAll, loadV, storeV, zeros, Am.rowAt, Am.part, addOff, Nat.reduceAdd, Nat.reduceMul, Nat.reduceLeDiff, Nat.reduceSub, Nat.reduceLT, Int.reduceEq, Int.reduceLT, Int.reduceLE, Int.reduceGT, Int.reduceGE, Int.reduceAdd, Int.reduceSub, Int.reduceMul, Int.reduceNeg, Int.reduceToNat, reduceCtorEq, reduceIte, lenV_sl H.i, elem_pt H.i, view_sl H.i, scalar_sl H.i, cells_sl H.i, pure_sl H.i, Int.toNat_natCast, lenV_sl HO.i, elem_pt HO.i, view_sl HO.i, scalar_sl HO.i, cells_sl HO.i, pure_sl HO.i, Int.toNat_natCast, lenV_sl V, elem_in V, view_sl V, scalar_sl V, cells_sl V, pure_sl V, Int.toNat_natCast, lenV_sl LV, elem_in LV, view_sl LV, scalar_sl LV, cells_sl LV, pure_sl LV, Int.toNat_natCast, c1, c2, a42, A3, vw3, u3, sc3.1, sc3.2.1, a21, a51, a52, a53, a50, a32, a54, a23, a55, a20, a56, a57, s18, gUn, pex_eqS, eqCells, decide_true, decide_false, Bool.not_true, Bool.and_true, bne_self_eq_false, List.append_assoc, lenE, setT, setT0, atT, atT0, getT, getT0, Nat.add_assoc, atE, setE]
  done
end
end Go.Proofs.Yteonklnjchefiaa.S

