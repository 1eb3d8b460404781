/-
CutsHolds and CutsPrice.
-/
import Derived.Test.YteonklnjchefiaaZd
namespace Go.Proofs.Yteonklnjchefiaa.S
open Go Go.Am Go.Proofs.Yteonklnjchefiaa.T
set_option maxRecDepth 100000
set_option linter.unusedSimpArgs false
set_option linter.unusedVariables false

section
variable {t : List Pt} {v : AV}
theorem askR_is (q : Bool) (r : Nat → Int) : ∃ a b e, askR t q r = .tup [.agg [I a, I b], I e] := by
  unfold askR btw erR
  cases tval t
  · exact ⟨_, _, _, rfl⟩
  cases q
  · exact ⟨_, _, _, rfl⟩
  cases is1 t <;> exact ⟨_, _, _, rfl⟩
theorem rnkR_is (l m : List Int) : ∃ a e, rnkR t l m = .tup [I a, I e] := by
  unfold rnkR
  cases tval t
  · exact ⟨_, _, rfl⟩
  cases (cutB t l && cutB t m)
  · exact ⟨_, _, rfl⟩
  cases is1 t <;> exact ⟨_, _, rfl⟩
set_option maxHeartbeats 8000000 in
theorem s14 (H0 : TbIn t v) {l m : List Int} {w y : AV} (V : IsSl 1 intL l w) (Y : IsSl 1 intL m y) : Iso E 14 [v, w, y] false = some (Bo true) := by
  refine Iso_of (es _ _ _ _) e14 ?_
  simp only [f14]
  by_cases c1 : (t.length : Int) > 40
  · simp (disch := first | assumption | omega | (simp only [az]; done)) only [ru, eq_self, if_true, if_false, BEq.rfl, binI, AO.row?, splice, fillL, mmAll, loadV, storeV, zeros, Am.rowAt, Am.part, addOff, Nat.reduceAdd, Nat.reduceMul, Nat.reduceLeDiff, Nat.reduceSub, Nat.reduceLT, Int.reduceEq, Int.reduceLT, Int.reduceLE, Int.reduceGT, Int.reduceGE, Int.reduceAdd, Int.reduceSub, Int.reduceMul, Int.reduceNeg, Int.reduceToNat, reduceCtorEq, reduceIte, lenV_sl H0.i, elem_pt H0.i, view_sl H0.i, scalar_sl H0.i, cells_sl H0.i, pure_sl H0.i, Int.toNat_natCast, lenV_sl V, elem_in V, view_sl V, scalar_sl V, cells_sl V, pure_sl V, Int.toNat_natCast, lenV_sl Y, elem_in Y, view_sl Y, scalar_sl Y, cells_sl Y, pure_sl Y, Int.toNat_natCast, c1, s18, gUn, decide_true]
    done
  by_cases c2 : (l.length : Int) > 40
  · simp (disch := first | assumption | omega | (simp only [az]; done)) only [ru, eq_self, if_true, if_false, BEq.rfl, binI, AO.row?, splice, fillL, mmAll, loadV, storeV, zeros, Am.rowAt, Am.part, addOff, Nat.reduceAdd, Nat.reduceMul, Nat.reduceLeDiff, Nat.reduceSub, Nat.reduceLT, Int.reduceEq, Int.reduceLT, Int.reduceLE, Int.reduceGT, Int.reduceGE, Int.reduceAdd, Int.reduceSub, Int.reduceMul, Int.reduceNeg, Int.reduceToNat, reduceCtorEq, reduceIte, lenV_sl H0.i, elem_pt H0.i, view_sl H0.i, scalar_sl H0.i, cells_sl H0.i, pure_sl H0.i, Int.toNat_natCast, lenV_sl V, elem_in V, view_sl V, scalar_sl V, cells_sl V, pure_sl V, Int.toNat_natCast, lenV_sl Y, elem_in Y, view_sl Y, scalar_sl Y, cells_sl Y, pure_sl Y, Int.toNat_natCast, c1, c2, s18, gUn, decide_true, decide_false]
    done
  by_cases c3 : (m.length : Int) > 40
  · simp (disch := first | assumption | omega | (simp only [az]; done)) only [ru, eq_self, if_true, if_false, BEq.rfl, binI, AO.row?, splice, fillL, mmAll, loadV, storeV, zeros, Am.rowAt, Am.part, addOff, Nat.reduceAdd, Nat.reduceMul, Nat.reduceLeDiff, Nat.reduceSub, Nat.reduceLT, Int.reduceEq, Int.reduceLT, Int.reduceLE, Int.reduceGT, Int.reduceGE, Int.reduceAdd, Int.reduceSub, Int.reduceMul, Int.reduceNeg, Int.reduceToNat, reduceCtorEq, reduceIte, lenV_sl H0.i, elem_pt H0.i, view_sl H0.i, scalar_sl H0.i, cells_sl H0.i, pure_sl H0.i, Int.toNat_natCast, lenV_sl V, elem_in V, view_sl V, scalar_sl V, cells_sl V, pure_sl V, Int.toNat_natCast, lenV_sl Y, elem_in Y, view_sl Y, scalar_sl Y, cells_sl Y, pure_sl Y, Int.toNat_natCast, c1, c2, c3, s18, gUn, decide_true, decide_false]
    done
  have H : TbOk t v := ⟨H0.i, by omega⟩
  have a42 := fun st => s42 H st
  obtain ⟨ov, hov⟩ : ∃ ov, ov = slV 6 Pt.e t := ⟨_, rfl⟩
  rw [← hov] at a42
  have HO : TbOk t ov := ⟨by rw [hov]; exact slV_is, H.n⟩
  obtain ⟨lw, h3, A3, fr3, R3⟩ := cpyV (eb := 8) (lim := 0) (h := ([] : List AO)) V intE intSc (by omega) (by omega) (Nat.zero_le _)
  simp only [List.nil_append, List.length_nil] at A3
  obtain ⟨mw, h5, A5, fr5, R5⟩ := cpyV (eb := 8) (lim := 0) (h := h3) Y intE intSc (by omega) (by omega) (Nat.zero_le _)
  have R35 := R3.fr fr5
  have sc3 := R3.sc
  have sc5 := R5.sc
  obtain ⟨lv, hlv⟩ : ∃ lv, lv = slV 1 intL l := ⟨_, rfl⟩
  have LV : IsSl 1 intL l lv := by rw [hlv]; exact slV_is
  obtain ⟨mv, hmv⟩ : ∃ lv, lv = slV 1 intL m := ⟨_, rfl⟩
  have MV : IsSl 1 intL m mv := by rw [hmv]; exact slV_is
  have v3 := R35.view intE intIv (st := false) (k := 7)
  have v5 := R5.view intE intIv (st := false) (k := 7)
  rw [← hlv] at v3
  rw [← hmv] at v5
  have u3 : ∀ J : List AO, Am.view false (h5 ++ J) 8 lw = some lv := fun J => by
    have := (R35.fr (Fr.app h5 J)).view intE intIv (st := false) (k := 7)
    rw [← hlv] at this; exact this
  have u5 : ∀ J : List AO, Am.view false (h5 ++ J) 8 mw = some mv := fun J => by
    have := (R5.fr (Fr.app h5 J)).view intE intIv (st := false) (k := 7)
    rw [← hmv] at this; exact this
  have a27 := fun st => s27 HO LV (by omega) st
  have a61 := fun st => s61 H V (by omega) st
  have a28 := fun st => s28 HO LV (by omega) MV (by omega) st
  have a62 := fun st => s62 H V (by omega) Y (by omega) st
  have a57 := fun st => s57 HO H st
  have a50 := fun st => s50 LV V (by omega) st
  have b50 := fun st => s50 MV Y (by omega) st
  obtain ⟨x1, x2, x3, hx⟩ := askR_is (t := t) (cutB t l) (rS t l)
  obtain ⟨y1, y2, hy⟩ := rnkR_is (t := t) l m
  rw [hx] at a27 a61
  rw [hy] at a28 a62
  simp (disch := first | assumption | omega | (simp only [az]; done)) only [ru, eq_self, if_true, if_false, BEq.rfl, binI, AO.row?, splice, fillL, mmAll, loadV, storeV, zeros, Am.rowAt, Am.part, addOff, Nat.reduceAdd, Nat.reduceMul, Nat.reduceLeDiff, Nat.reduceSub, Nat.reduceLT, Int.reduceEq, Int.reduceLT, Int.reduceLE, Int.reduceGT, Int.reduceGE, Int.reduceAdd, Int.reduceSub, Int.reduceMul, Int.reduceNeg, Int.reduceToNat, reduceCtorEq, reduceIte, lenV_sl H.i, elem_pt H.i, view_sl H.i, scalar_sl H.i, cells_sl H.i, pure_sl H.i, Int.toNat_natCast, lenV_sl HO.i, elem_pt HO.i, view_sl HO.i, scalar_sl HO.i, cells_sl HO.i, pure_sl HO.i, Int.toNat_natCast, lenV_sl V, elem_in V, view_sl V, scalar_sl V, cells_sl V, pure_sl V, Int.toNat_natCast, lenV_sl Y, elem_in Y, view_sl Y, scalar_sl Y, cells_sl Y, pure_sl Y, Int.toNat_natCast, lenV_sl LV, elem_in LV, view_sl LV, scalar_sl LV, cells_sl LV, pure_sl LV, Int.toNat_natCast, lenV_sl MV, elem_in MV, view_sl MV, scalar_sl MV, cells_sl MV, pure_sl MV, Int.toNat_natCast, c1, c2, c3, a42, A3, A5, v3, v5, u3, u5, sc3.1, sc3.2.1, sc5.1, sc5.2.1, a27, a61, a28, a62, a50, b50, a57, s18, gUn, pex_eqS, eqCells, decide_true, decide_false, Bool.not_true, Bool.and_true, bne_self_eq_false, List.append_assoc, lenE, setT, setT0, atT, atT0, getT, getT0, Nat.add_assoc, atE, setE]
  done
end
end Go.Proofs.Yteonklnjchefiaa.S

