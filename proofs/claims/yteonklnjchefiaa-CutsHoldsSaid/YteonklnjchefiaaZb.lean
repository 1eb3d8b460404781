/-
The specification: Weight, Lost, sums of numbers times weights, Whole, Price and Rank.
-/
import Derived.Test.YteonklnjchefiaaZa
namespace Go.Proofs.Yteonklnjchefiaa.S
open Go Go.Am Go.Proofs.Yteonklnjchefiaa.T
set_option maxRecDepth 100000
set_option linter.unusedSimpArgs false
set_option linter.unusedVariables false

section
variable {t : List Pt} {v : AV}
def knE (t : List Pt) (q : Bool) : Int := if tval t then (if q then (if is1 t then 0 else 3) else 1) else 70
theorem s91 (H : TbOk t v) (q : Bool) (st : Bool) : Iso E 91 [v, Bo q] st = some (I (knE t q)) := by
  have g := fun st => s123 H q st
  refine Iso_of (es _ _ _ _) e91 ?_
  simp only [f91, knE]
  cases hv : tval t
  · simp only [hv, aC, Bool.false_eq_true, if_false] at g
    simp (disch := first | assumption | omega | (simp only [az]; done)) only [ru, eq_self, if_true, if_false, BEq.rfl, binI, AO.row?, splice, fillL, mmAll, loadV, storeV, zeros, Am.rowAt, Am.part, addOff, Nat.reduceAdd, Nat.reduceMul, Nat.reduceLeDiff, Nat.reduceSub, Nat.reduceLT, Int.reduceEq, Int.reduceLT, Int.reduceLE, Int.reduceGT, Int.reduceGE, Int.reduceAdd, Int.reduceSub, Int.reduceMul, Int.reduceNeg, Int.reduceToNat, reduceCtorEq, reduceIte, lenV_sl H.i, elem_pt H.i, view_sl H.i, scalar_sl H.i, cells_sl H.i, pure_sl H.i, Int.toNat_natCast, g, decide_true, decide_false, Bool.false_eq_true]
    done
  have g2 := fun st => s34 H (tval_W hv) st
  cases q
  · simp only [hv, aC, Bool.false_eq_true, if_false, if_true] at g
    simp (disch := first | assumption | omega | (simp only [az]; done)) only [ru, eq_self, if_true, if_false, BEq.rfl, binI, AO.row?, splice, fillL, mmAll, loadV, storeV, zeros, Am.rowAt, Am.part, addOff, Nat.reduceAdd, Nat.reduceMul, Nat.reduceLeDiff, Nat.reduceSub, Nat.reduceLT, Int.reduceEq, Int.reduceLT, Int.reduceLE, Int.reduceGT, Int.reduceGE, Int.reduceAdd, Int.reduceSub, Int.reduceMul, Int.reduceNeg, Int.reduceToNat, reduceCtorEq, reduceIte, lenV_sl H.i, elem_pt H.i, view_sl H.i, scalar_sl H.i, cells_sl H.i, pure_sl H.i, Int.toNat_natCast, g, decide_true, decide_false, Bool.false_eq_true]
    done
  simp only [hv, aC, if_true] at g
  cases h1 : is1 t <;> simp (disch := first | assumption | omega | (simp only [az]; done)) only [ru, eq_self, if_true, if_false, BEq.rfl, binI, AO.row?, splice, fillL, mmAll, loadV, storeV, zeros, Am.rowAt, Am.part, addOff, Nat.reduceAdd, Nat.reduceMul, Nat.reduceLeDiff, Nat.reduceSub, Nat.reduceLT, Int.reduceEq, Int.reduceLT, Int.reduceLE, Int.reduceGT, Int.reduceGE, Int.reduceAdd, Int.reduceSub, Int.reduceMul, Int.reduceNeg, Int.reduceToNat, reduceCtorEq, reduceIte, lenV_sl H.i, elem_pt H.i, view_sl H.i, scalar_sl H.i, cells_sl H.i, pure_sl H.i, Int.toNat_natCast, g, g2, h1, decide_true, decide_false, Bool.not_true, Bool.not_false, Bool.false_eq_true]
set_option maxHeartbeats 2000000 in
theorem s92 (H : TbOk t v) (T : TW t) (h1 : is1 t = true) {p : Nat} (hp : p < t.length) (st : Bool) : Iso E 92 [v, I p] st = some (.agg [I (loV t (rA p)), I (hiV t (rA p))]) := by
  have sp := H.n
  have n8 := T.n
  have plt : (p : Int) < t.length := by omega
  have hw := T.w p hp
  have fw := fun {lo hi : Int} (F : Fnd (fun n => is1 (onl t p n)) (t.getD p default).w.lo (t.getD p default).w.hi ((t.getD p default).w.hi + 1) lo hi) => fnd_w T h1 hp F
  have a36 := fun n => s36 H hp n
  have a34 := fun (n : Int) (hn : 0 ≤ n ∧ n ≤ 30) st => s34 (⟨slV_is, by rw [onl_n]; omega⟩ : TbOk (onl t p n) (slV 6 Pt.e (onl t p n))) (onl_W T hp hn) st
  obtain ⟨x, hx⟩ : ∃ x, x = t.getD p default := ⟨_, rfl⟩
  rw [← hx] at hw
  simp only [← hx] at fw
  refine Iso_of (es _ _ _ _) e92 ?_
  simp only [f92]
  simp (disch := first | assumption | omega | (simp only [az]; done)) only [ru, eq_self, if_true, if_false, BEq.rfl, binI, AO.row?, splice, fillL, mmAll, loadV, storeV, zeros, Am.rowAt, Am.part, addOff, Nat.reduceAdd, Nat.reduceMul, Nat.reduceLeDiff, Nat.reduceSub, Nat.reduceLT, Int.reduceEq, Int.reduceLT, Int.reduceLE, Int.reduceGT, Int.reduceGE, Int.reduceAdd, Int.reduceSub, Int.reduceMul, Int.reduceNeg, Int.reduceToNat, reduceCtorEq, reduceIte, lenV_sl H.i, elem_pt H.i, view_sl H.i, scalar_sl H.i, cells_sl H.i, pure_sl H.i, Int.toNat_natCast, plt, nn, ← hx]
  refine G_loop_ind (fun m ts h mk => ∃ (i lo hi : Int), x.w.lo ≤ i ∧ i ≤ x.w.hi + 1 ∧ m = (x.w.hi + 1 - i).toNat ∧ Fnd (fun n => is1 (onl t p n)) x.w.lo x.w.hi i lo hi ∧ ts.length = 39 ∧ ts.getD 0 .undef = v ∧ ts.getD 1 .undef = I p ∧ ts.getD 4 .undef = .ptr 0 0 ∧ ts.getD 5 .undef = .ptr 1 0 ∧ ts.getD 6 .undef = I i ∧ h = [.cells [I 0, I 0] false, .cells [I lo, I hi] false] ∧ mk = []) ?_ _ _ _ _
    ⟨x.w.lo, 30, 0, Int.le_refl _, by omega, rfl, Fnd.zero, rfl, rfl, rfl, rfl, rfl, rfl, rfl, rfl⟩
  rintro m ts h mk ih ⟨i, lo, hi, g1, g2, rfl, F, hl', q0, q1, q4, q5, q6, rfl, rfl⟩
  rw [lit_all hl']
  simp only [lit0, litS, Nat.reduceAdd, q0, q1, q4, q5, q6]
  simp (disch := first | assumption | omega | (simp only [az]; done)) only [ru, eq_self, if_true, if_false, BEq.rfl, binI, AO.row?, splice, fillL, mmAll, loadV, storeV, zeros, Am.rowAt, Am.part, addOff, Nat.reduceAdd, Nat.reduceMul, Nat.reduceLeDiff, Nat.reduceSub, Nat.reduceLT, Int.reduceEq, Int.reduceLT, Int.reduceLE, Int.reduceGT, Int.reduceGE, Int.reduceAdd, Int.reduceSub, Int.reduceMul, Int.reduceNeg, Int.reduceToNat, reduceCtorEq, reduceIte, lenV_sl H.i, elem_pt H.i, view_sl H.i, scalar_sl H.i, cells_sl H.i, pure_sl H.i, Int.toNat_natCast, plt, nn, ← hx]
  by_cases hlt : i ≤ x.w.hi
  case neg =>
    have e : i = x.w.hi + 1 := by omega
    subst e
    obtain ⟨rfl, rfl⟩ := fw F
    simp (disch := first | assumption | omega | (simp only [az]; done)) only [ru, eq_self, if_true, if_false, BEq.rfl, binI, AO.row?, splice, fillL, mmAll, loadV, storeV, zeros, Am.rowAt, Am.part, addOff, Nat.reduceAdd, Nat.reduceMul, Nat.reduceLeDiff, Nat.reduceSub, Nat.reduceLT, Int.reduceEq, Int.reduceLT, Int.reduceLE, Int.reduceGT, Int.reduceGE, Int.reduceAdd, Int.reduceSub, Int.reduceMul, Int.reduceNeg, Int.reduceToNat, reduceCtorEq, reduceIte, hlt, decide_false, finC, getRes, Option.some.injEq, exists_eq_left']
    done
  have b36 := a36 i
  have b34 := fun st => a34 i (by omega) st
  have VO := slV_is (esz := 6) (enc := Pt.e) (l := onl t p i)
  obtain ⟨w, hw'⟩ : ∃ w, w = slV 6 Pt.e (onl t p i) := ⟨_, rfl⟩
  rw [← hw'] at b36 b34 VO
  cases hq : is1 (onl t p i)
  · simp (disch := first | assumption | omega | (simp only [az]; done)) only [ru, eq_self, if_true, if_false, BEq.rfl, binI, AO.row?, splice, fillL, mmAll, loadV, storeV, zeros, Am.rowAt, Am.part, addOff, Nat.reduceAdd, Nat.reduceMul, Nat.reduceLeDiff, Nat.reduceSub, Nat.reduceLT, Int.reduceEq, Int.reduceLT, Int.reduceLE, Int.reduceGT, Int.reduceGE, Int.reduceAdd, Int.reduceSub, Int.reduceMul, Int.reduceNeg, Int.reduceToNat, reduceCtorEq, reduceIte, lenV_sl H.i, elem_pt H.i, view_sl H.i, scalar_sl H.i, cells_sl H.i, pure_sl H.i, Int.toNat_natCast, lenV_sl VO, view_sl VO, scalar_sl VO, cells_sl VO, pure_sl VO, hlt, decide_true, decide_false, b36, b34, hq]
    exact ih (x.w.hi + 1 - (i + 1)).toNat _ _ _ (by omega) ⟨i + 1, lo, hi, by omega, by omega, rfl, F.no hq, rfl, rfl, rfl, rfl, rfl, rfl, rfl, rfl⟩
  · simp (disch := first | assumption | omega | (simp only [az]; done)) only [ru, eq_self, if_true, if_false, BEq.rfl, binI, AO.row?, splice, fillL, mmAll, loadV, storeV, zeros, Am.rowAt, Am.part, addOff, Nat.reduceAdd, Nat.reduceMul, Nat.reduceLeDiff, Nat.reduceSub, Nat.reduceLT, Int.reduceEq, Int.reduceLT, Int.reduceLE, Int.reduceGT, Int.reduceGE, Int.reduceAdd, Int.reduceSub, Int.reduceMul, Int.reduceNeg, Int.reduceToNat, reduceCtorEq, reduceIte, lenV_sl H.i, elem_pt H.i, view_sl H.i, scalar_sl H.i, cells_sl H.i, pure_sl H.i, Int.toNat_natCast, lenV_sl VO, view_sl VO, scalar_sl VO, cells_sl VO, pure_sl VO, hlt, decide_true, decide_false, b36, b34, hq]
    exact ih (x.w.hi + 1 - (i + 1)).toNat _ _ _ (by omega) ⟨i + 1, _, _, by omega, by omega, rfl, F.yes g1 hq (by omega), rfl, rfl, rfl, rfl, rfl, rfl, rfl, rfl⟩
theorem s54 (H : TbOk t v) (i : Int) (st : Bool) : Iso E 54 [v, I i] st = some (askR t (inR i 0 (t.length - 1)) (rA i.toNat)) := by
  have g := fun st => s31 H i st
  have g2 := fun q st => s91 H q st
  refine Iso_of (es _ _ _ _) e54 ?_
  simp only [f54, askR, erR]
  cases hv : tval t
  · simp only [knE, hv, Bool.false_eq_true, if_false] at g2
    simp (disch := first | assumption | omega | (simp only [az]; done)) only [ru, eq_self, if_true, if_false, BEq.rfl, binI, AO.row?, splice, fillL, mmAll, loadV, storeV, zeros, Am.rowAt, Am.part, addOff, Nat.reduceAdd, Nat.reduceMul, Nat.reduceLeDiff, Nat.reduceSub, Nat.reduceLT, Int.reduceEq, Int.reduceLT, Int.reduceLE, Int.reduceGT, Int.reduceGE, Int.reduceAdd, Int.reduceSub, Int.reduceMul, Int.reduceNeg, Int.reduceToNat, reduceCtorEq, reduceIte, lenV_sl H.i, elem_pt H.i, view_sl H.i, scalar_sl H.i, cells_sl H.i, pure_sl H.i, Int.toNat_natCast, g, g2, decide_true, decide_false, Bool.false_eq_true, finC2, getRes, Option.some.injEq, exists_eq_left']
    done
  have T := tval_W hv
  have n8 := T.n
  cases hq : inR i 0 (t.length - 1)
  · simp only [hq] at g
    simp only [knE, hv, if_true] at g2
    simp (disch := first | assumption | omega | (simp only [az]; done)) only [ru, eq_self, if_true, if_false, BEq.rfl, binI, AO.row?, splice, fillL, mmAll, loadV, storeV, zeros, Am.rowAt, Am.part, addOff, Nat.reduceAdd, Nat.reduceMul, Nat.reduceLeDiff, Nat.reduceSub, Nat.reduceLT, Int.reduceEq, Int.reduceLT, Int.reduceLE, Int.reduceGT, Int.reduceGE, Int.reduceAdd, Int.reduceSub, Int.reduceMul, Int.reduceNeg, Int.reduceToNat, reduceCtorEq, reduceIte, lenV_sl H.i, elem_pt H.i, view_sl H.i, scalar_sl H.i, cells_sl H.i, pure_sl H.i, Int.toNat_natCast, g, g2, decide_true, decide_false, Bool.false_eq_true, finC2, getRes, Option.some.injEq, exists_eq_left']
    done
  simp only [hq] at g
  obtain ⟨i0, i1⟩ := inR_iff.1 hq
  obtain ⟨n, rfl⟩ : ∃ n : Nat, i = n := ⟨i.toNat, by omega⟩
  simp only [btw, Int.toNat_natCast]
  cases h1 : is1 t
  · simp only [knE, hv, h1, Bool.false_eq_true, if_true, if_false] at g2
    simp (disch := first | assumption | omega | (simp only [az]; done)) only [ru, eq_self, if_true, if_false, BEq.rfl, binI, AO.row?, splice, fillL, mmAll, loadV, storeV, zeros, Am.rowAt, Am.part, addOff, Nat.reduceAdd, Nat.reduceMul, Nat.reduceLeDiff, Nat.reduceSub, Nat.reduceLT, Int.reduceEq, Int.reduceLT, Int.reduceLE, Int.reduceGT, Int.reduceGE, Int.reduceAdd, Int.reduceSub, Int.reduceMul, Int.reduceNeg, Int.reduceToNat, reduceCtorEq, reduceIte, lenV_sl H.i, elem_pt H.i, view_sl H.i, scalar_sl H.i, cells_sl H.i, pure_sl H.i, Int.toNat_natCast, g, g2, decide_true, decide_false, Bool.false_eq_true, finC2, getRes, Option.some.injEq, exists_eq_left']
    done
  · have g3 := fun st => s92 H T h1 (p := n) (by omega) st
    simp only [knE, hv, h1, Bool.false_eq_true, if_true, if_false] at g2
    simp (disch := first | assumption | omega | (simp only [az]; done)) only [ru, eq_self, if_true, if_false, BEq.rfl, binI, AO.row?, splice, fillL, mmAll, loadV, storeV, zeros, Am.rowAt, Am.part, addOff, Nat.reduceAdd, Nat.reduceMul, Nat.reduceLeDiff, Nat.reduceSub, Nat.reduceLT, Int.reduceEq, Int.reduceLT, Int.reduceLE, Int.reduceGT, Int.reduceGE, Int.reduceAdd, Int.reduceSub, Int.reduceMul, Int.reduceNeg, Int.reduceToNat, reduceCtorEq, reduceIte, lenV_sl H.i, elem_pt H.i, view_sl H.i, scalar_sl H.i, cells_sl H.i, pure_sl H.i, Int.toNat_natCast, g, g2, g3, decide_true, decide_false, Bool.false_eq_true, finC2, getRes, Option.some.injEq, exists_eq_left']
    done
set_option maxHeartbeats 1000000 in
theorem s93 (H : TbOk t v) {p : Nat} (hp : p < t.length) (n : Int) : Iso E 93 [v, I p, I n] false = some (slV 6 Pt.e (wsd t p n)) := by
  have sp := H.n
  obtain ⟨o, H', hC, fr, ho, hc⟩ := c42 H []
  have gt := pt_get6 hp
  have pt : (t.flatMap Pt.e).take (p * 6) ++ I (t.getD p default).of :: I (t.getD p default).w.lo :: I (t.getD p default).w.hi :: I n :: I n :: I (t.getD p default).p :: (t.flatMap Pt.e).drop (p * 6 + 6) = (wsd t p n).flatMap Pt.e := pt_put6 hp { t.getD p default with s := ⟨n, n⟩ }
  obtain ⟨x, hx⟩ : ∃ x, x = t.getD p default := ⟨_, rfl⟩
  rw [← hx] at gt pt
  obtain ⟨Z, hZ⟩ : ∃ Z, Z = t.flatMap Pt.e := ⟨_, rfl⟩
  have zl : Z.length = t.length * 6 := by rw [hZ, flat_len Pt.el]
  rw [← hZ] at gt pt hc
  have fit : p * 6 + 6 ≤ Z.length := by omega
  have ol := (List.getElem?_eq_some_iff.1 hc).1
  have plt : (p : Int) < t.length := by omega
  have oc : ∀ X : AO, (H' ++ [X])[o]? = some (.cells Z false) := fun X => by rw [at_ap ol]; exact hc
  have vw : ∀ (X : AO) k, view false ((H' ++ [X]).set o (.cells ((wsd t p n).flatMap Pt.e) false)) (k + 1) (.ms 6 o 0 t.length) = some (slV 6 Pt.e (wsd t p n)) := fun X k => by
    have := RdC.view (enc := Pt.e) (esz := 6) (l := wsd t p n) (h := (H' ++ [X]).set o (.cells ((wsd t p n).flatMap Pt.e) false)) (w := .ms 6 o 0 t.length) ⟨o, by simp [wsd], by rw [List.getElem?_set_self (by simp; omega)]⟩ Pt.el Pt.iv (st := false) (k := k)
    exact this
  have vw7 := fun X => vw X 7
  refine Iso_of (es _ _ _ _) e93 ?_
  simp only [f93]
  simp (disch := first | assumption | omega | (simp only [az]; done)) only [ru, eq_self, if_true, if_false, BEq.rfl, binI, AO.row?, splice, fillL, mmAll, loadV, storeV, zeros, Am.rowAt, Am.part, addOff, Nat.reduceAdd, Nat.reduceMul, Nat.reduceLeDiff, Nat.reduceSub, Nat.reduceLT, Int.reduceEq, Int.reduceLT, Int.reduceLE, Int.reduceGT, Int.reduceGE, Int.reduceAdd, Int.reduceSub, Int.reduceMul, Int.reduceNeg, Int.reduceToNat, reduceCtorEq, reduceIte, lenV_sl H.i, elem_pt H.i, view_sl H.i, scalar_sl H.i, cells_sl H.i, pure_sl H.i, Int.toNat_natCast, exOp_call2, hC, elemAt_ms, plt, nn, Int.toNat_natCast, Nat.zero_add, hc, oc, gt, atE, setE, lenE, fit, List.append_assoc, pt, vw7]
set_option maxHeartbeats 2000000 in
theorem s55 (H : TbOk t v) (i : Int) (st : Bool) : Iso E 55 [v, I i] st = some (askR t (inR i 0 (t.length - 1) && canC t i) (rL t i.toNat)) := by
  have sp := H.n
  have g := fun st => s31 H i st
  have g1 := fun st => s24 H i st
  have g2 := fun q st => s91 H q st
  refine Iso_of (es _ _ _ _) e55 ?_
  simp only [f55, askR, erR]
  cases hv : tval t
  · simp only [knE, hv, Bool.false_eq_true, if_false] at g2
    cases hq : inR i 0 (t.length - 1) <;>
    simp (disch := first | assumption | omega | (simp only [az]; done)) only [ru, eq_self, if_true, if_false, BEq.rfl, binI, AO.row?, splice, fillL, mmAll, loadV, storeV, zeros, Am.rowAt, Am.part, addOff, Nat.reduceAdd, Nat.reduceMul, Nat.reduceLeDiff, Nat.reduceSub, Nat.reduceLT, Int.reduceEq, Int.reduceLT, Int.reduceLE, Int.reduceGT, Int.reduceGE, Int.reduceAdd, Int.reduceSub, Int.reduceMul, Int.reduceNeg, Int.reduceToNat, reduceCtorEq, reduceIte, lenV_sl H.i, elem_pt H.i, view_sl H.i, scalar_sl H.i, cells_sl H.i, pure_sl H.i, Int.toNat_natCast, g, hq, g1, g2, gUn, decide_true, decide_false, Bool.false_eq_true, finC2, getRes, Option.some.injEq, exists_eq_left']
  have T := tval_W hv
  have n8 := T.n
  cases hq : inR i 0 (t.length - 1)
  · simp only [hq] at g
    simp only [knE, hv, if_true] at g2
    simp (disch := first | assumption | omega | (simp only [az]; done)) only [ru, eq_self, if_true, if_false, BEq.rfl, binI, AO.row?, splice, fillL, mmAll, loadV, storeV, zeros, Am.rowAt, Am.part, addOff, Nat.reduceAdd, Nat.reduceMul, Nat.reduceLeDiff, Nat.reduceSub, Nat.reduceLT, Int.reduceEq, Int.reduceLT, Int.reduceLE, Int.reduceGT, Int.reduceGE, Int.reduceAdd, Int.reduceSub, Int.reduceMul, Int.reduceNeg, Int.reduceToNat, reduceCtorEq, reduceIte, lenV_sl H.i, elem_pt H.i, view_sl H.i, scalar_sl H.i, cells_sl H.i, pure_sl H.i, Int.toNat_natCast, g, g2, gUn, decide_true, decide_false, Bool.false_eq_true, Bool.false_and, finC2, getRes, Option.some.injEq, exists_eq_left']
    done
  simp only [hq] at g
  obtain ⟨i0, i1⟩ := inR_iff.1 hq
  obtain ⟨p, rfl⟩ : ∃ n : Nat, i = n := ⟨i.toNat, by omega⟩
  have hp : p < t.length := by omega
  simp only [btw, Int.toNat_natCast]
  cases hcc : canC t p
  · simp only [hcc] at g1
    simp only [knE, hv, if_true] at g2
    simp (disch := first | assumption | omega | (simp only [az]; done)) only [ru, eq_self, if_true, if_false, BEq.rfl, binI, AO.row?, splice, fillL, mmAll, loadV, storeV, zeros, Am.rowAt, Am.part, addOff, Nat.reduceAdd, Nat.reduceMul, Nat.reduceLeDiff, Nat.reduceSub, Nat.reduceLT, Int.reduceEq, Int.reduceLT, Int.reduceLE, Int.reduceGT, Int.reduceGE, Int.reduceAdd, Int.reduceSub, Int.reduceMul, Int.reduceNeg, Int.reduceToNat, reduceCtorEq, reduceIte, lenV_sl H.i, elem_pt H.i, view_sl H.i, scalar_sl H.i, cells_sl H.i, pure_sl H.i, Int.toNat_natCast, g, g1, g2, gUn, decide_true, decide_false, Bool.false_eq_true, Bool.true_and, finC2, getRes, Option.some.injEq, exists_eq_left']
    done
  simp only [hcc] at g1
  cases h1 : is1 t
  · simp only [knE, hv, h1, Bool.false_eq_true, if_true, if_false] at g2
    simp (disch := first | assumption | omega | (simp only [az]; done)) only [ru, eq_self, if_true, if_false, BEq.rfl, binI, AO.row?, splice, fillL, mmAll, loadV, storeV, zeros, Am.rowAt, Am.part, addOff, Nat.reduceAdd, Nat.reduceMul, Nat.reduceLeDiff, Nat.reduceSub, Nat.reduceLT, Int.reduceEq, Int.reduceLT, Int.reduceLE, Int.reduceGT, Int.reduceGE, Int.reduceAdd, Int.reduceSub, Int.reduceMul, Int.reduceNeg, Int.reduceToNat, reduceCtorEq, reduceIte, lenV_sl H.i, elem_pt H.i, view_sl H.i, scalar_sl H.i, cells_sl H.i, pure_sl H.i, Int.toNat_natCast, g, g1, g2, gUn, decide_true, decide_false, Bool.false_eq_true, Bool.true_and, finC2, getRes, Option.some.injEq, exists_eq_left']
    done
  simp only [knE, hv, h1, Bool.false_eq_true, if_true, if_false] at g2
  have plt : (p : Int) < t.length := by omega
  have hw := T.s p hp
  have fw := fun {lo hi : Int} (F : Fnd (fun n => is1 (wsd t p n)) (t.getD p default).s.lo (t.getD p default).s.hi ((t.getD p default).s.hi + 1) lo hi) => fnd_s T h1 hp hcc F
  have a36 := fun n => s93 H hp n
  have a34 := fun (n : Int) (hn : 0 ≤ n ∧ n ≤ 30) st => s34 (⟨slV_is, by rw [wsd_n]; omega⟩ : TbOk (wsd t p n) (slV 6 Pt.e (wsd t p n))) (wsd_W T hp hn) st
  obtain ⟨x, hx⟩ : ∃ x, x = t.getD p default := ⟨_, rfl⟩
  rw [← hx] at hw
  simp only [← hx] at fw
  simp (disch := first | assumption | omega | (simp only [az]; done)) only [ru, eq_self, if_true, if_false, BEq.rfl, binI, AO.row?, splice, fillL, mmAll, loadV, storeV, zeros, Am.rowAt, Am.part, addOff, Nat.reduceAdd, Nat.reduceMul, Nat.reduceLeDiff, Nat.reduceSub, Nat.reduceLT, Int.reduceEq, Int.reduceLT, Int.reduceLE, Int.reduceGT, Int.reduceGE, Int.reduceAdd, Int.reduceSub, Int.reduceMul, Int.reduceNeg, Int.reduceToNat, reduceCtorEq, reduceIte, lenV_sl H.i, elem_pt H.i, view_sl H.i, scalar_sl H.i, cells_sl H.i, pure_sl H.i, Int.toNat_natCast, g, g1, g2, gUn, plt, nn, ← hx, decide_true, decide_false, Bool.true_and]
  refine G_loop_ind (fun m ts h mk => ∃ (i lo hi : Int), x.s.lo ≤ i ∧ i ≤ x.s.hi + 1 ∧ m = (x.s.hi + 1 - i).toNat ∧ Fnd (fun n => is1 (wsd t p n)) x.s.lo x.s.hi i lo hi ∧ ts.length = 55 ∧ ts.getD 0 .undef = v ∧ ts.getD 1 .undef = I p ∧ ts.getD 4 .undef = .ptr 0 0 ∧ ts.getD 7 .undef = .ptr 1 0 ∧ ts.getD 8 .undef = I i ∧ h = [.cells [I 0, I 0] false, .cells [I lo, I hi] false] ∧ mk = []) ?_ _ _ _ _
    ⟨x.s.lo, 30, 0, Int.le_refl _, by omega, rfl, Fnd.zero, rfl, rfl, rfl, rfl, rfl, rfl, rfl, rfl⟩
  rintro m ts h mk ih ⟨i, lo, hi, g1, g2, rfl, F, hl', q0, q1, q4, q5, q6, rfl, rfl⟩
  rw [lit_all hl']
  simp only [lit0, litS, Nat.reduceAdd, q0, q1, q4, q5, q6]
  simp (disch := first | assumption | omega | (simp only [az]; done)) only [ru, eq_self, if_true, if_false, BEq.rfl, binI, AO.row?, splice, fillL, mmAll, loadV, storeV, zeros, Am.rowAt, Am.part, addOff, Nat.reduceAdd, Nat.reduceMul, Nat.reduceLeDiff, Nat.reduceSub, Nat.reduceLT, Int.reduceEq, Int.reduceLT, Int.reduceLE, Int.reduceGT, Int.reduceGE, Int.reduceAdd, Int.reduceSub, Int.reduceMul, Int.reduceNeg, Int.reduceToNat, reduceCtorEq, reduceIte, lenV_sl H.i, elem_pt H.i, view_sl H.i, scalar_sl H.i, cells_sl H.i, pure_sl H.i, Int.toNat_natCast, plt, nn, ← hx]
  by_cases hlt : i ≤ x.s.hi
  case neg =>
    have e : i = x.s.hi + 1 := by omega
    subst e
    obtain ⟨rfl, rfl⟩ := fw F
    simp (disch := first | assumption | omega | (simp only [az]; done)) only [ru, eq_self, if_true, if_false, BEq.rfl, binI, AO.row?, splice, fillL, mmAll, loadV, storeV, zeros, Am.rowAt, Am.part, addOff, Nat.reduceAdd, Nat.reduceMul, Nat.reduceLeDiff, Nat.reduceSub, Nat.reduceLT, Int.reduceEq, Int.reduceLT, Int.reduceLE, Int.reduceGT, Int.reduceGE, Int.reduceAdd, Int.reduceSub, Int.reduceMul, Int.reduceNeg, Int.reduceToNat, reduceCtorEq, reduceIte, hlt, decide_false, finC2, getRes, Option.some.injEq, exists_eq_left']
    done
  have b36 := a36 i
  have b34 := fun st => a34 i (by omega) st
  have VO := slV_is (esz := 6) (enc := Pt.e) (l := wsd t p i)
  obtain ⟨w, hw'⟩ : ∃ w, w = slV 6 Pt.e (wsd t p i) := ⟨_, rfl⟩
  rw [← hw'] at b36 b34 VO
  cases hq : is1 (wsd t p i)
  · simp (disch := first | assumption | omega | (simp only [az]; done)) only [ru, eq_self, if_true, if_false, BEq.rfl, binI, AO.row?, splice, fillL, mmAll, loadV, storeV, zeros, Am.rowAt, Am.part, addOff, Nat.reduceAdd, Nat.reduceMul, Nat.reduceLeDiff, Nat.reduceSub, Nat.reduceLT, Int.reduceEq, Int.reduceLT, Int.reduceLE, Int.reduceGT, Int.reduceGE, Int.reduceAdd, Int.reduceSub, Int.reduceMul, Int.reduceNeg, Int.reduceToNat, reduceCtorEq, reduceIte, lenV_sl H.i, elem_pt H.i, view_sl H.i, scalar_sl H.i, cells_sl H.i, pure_sl H.i, Int.toNat_natCast, lenV_sl VO, view_sl VO, scalar_sl VO, cells_sl VO, pure_sl VO, hlt, decide_true, decide_false, b36, b34, hq]
    exact ih (x.s.hi + 1 - (i + 1)).toNat _ _ _ (by omega) ⟨i + 1, lo, hi, by omega, by omega, rfl, F.no hq, rfl, rfl, rfl, rfl, rfl, rfl, rfl, rfl⟩
  · simp (disch := first | assumption | omega | (simp only [az]; done)) only [ru, eq_self, if_true, if_false, BEq.rfl, binI, AO.row?, splice, fillL, mmAll, loadV, storeV, zeros, Am.rowAt, Am.part, addOff, Nat.reduceAdd, Nat.reduceMul, Nat.reduceLeDiff, Nat.reduceSub, Nat.reduceLT, Int.reduceEq, Int.reduceLT, Int.reduceLE, Int.reduceGT, Int.reduceGE, Int.reduceAdd, Int.reduceSub, Int.reduceMul, Int.reduceNeg, Int.reduceToNat, reduceCtorEq, reduceIte, lenV_sl H.i, elem_pt H.i, view_sl H.i, scalar_sl H.i, cells_sl H.i, pure_sl H.i, Int.toNat_natCast, lenV_sl VO, view_sl VO, scalar_sl VO, cells_sl VO, pure_sl VO, hlt, decide_true, decide_false, b36, b34, hq]
    exact ih (x.s.hi + 1 - (i + 1)).toNat _ _ _ (by omega) ⟨i + 1, _, _, by omega, by omega, rfl, F.yes g1 hq (by omega), rfl, rfl, rfl, rfl, rfl, rfl, rfl, rfl⟩
end
end Go.Proofs.Yteonklnjchefiaa.S

