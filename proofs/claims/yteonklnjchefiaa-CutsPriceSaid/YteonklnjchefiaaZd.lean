/-
The specification: Whole, Price and Rank.
-/
import Derived.Test.YteonklnjchefiaaZc
namespace Go.Proofs.Yteonklnjchefiaa.S
open Go Go.Am Go.Proofs.Yteonklnjchefiaa.T
set_option maxRecDepth 100000
set_option linter.unusedSimpArgs false
set_option linter.unusedVariables false

section
variable {t : List Pt} {v : AV}
def opE (t : List Pt) (l m : List Int) : Int := knE t (cutB t l && cutB t m)
theorem s98 (H : TbOk t v) {l m : List Int} {w y : AV} (V : IsSl 1 intL l w) (hl : l.length ≤ 1000) (Y : IsSl 1 intL m y) (hm : m.length ≤ 1000) (st : Bool) : Iso E 98 [v, w, y] st = some (I (opE t l m)) := by
  have g := fun st => s53 H st
  have g2 := fun q st => s91 H q st
  refine Iso_of (es _ _ _ _) e98 ?_
  simp only [f98, opE, knE]
  cases hv : tval t
  · simp (disch := first | assumption | omega | (simp only [az]; done)) only [ru, eq_self, if_true, if_false, BEq.rfl, binI, AO.row?, splice, fillL, mmAll, loadV, storeV, zeros, Am.rowAt, Am.part, addOff, Nat.reduceAdd, Nat.reduceMul, Nat.reduceLeDiff, Nat.reduceSub, Nat.reduceLT, Int.reduceEq, Int.reduceLT, Int.reduceLE, Int.reduceGT, Int.reduceGE, Int.reduceAdd, Int.reduceSub, Int.reduceMul, Int.reduceNeg, Int.reduceToNat, reduceCtorEq, reduceIte, lenV_sl H.i, elem_pt H.i, view_sl H.i, scalar_sl H.i, cells_sl H.i, pure_sl H.i, Int.toNat_natCast, lenV_sl V, view_sl V, scalar_sl V, cells_sl V, pure_sl V, lenV_sl Y, view_sl Y, scalar_sl Y, cells_sl Y, pure_sl Y, g, hv, decide_true, decide_false, Bool.false_eq_true]
    done
  have T := tval_W hv
  have a1 := fun st => s47 H T.toTG V hl st
  have a2 := fun st => s47 H T.toTG Y hm st
  simp only [knE, hv, if_true] at g2
  cases h1 : cutB t l
  · simp only [h1] at a1
    simp (disch := first | assumption | omega | (simp only [az]; done)) only [ru, eq_self, if_true, if_false, BEq.rfl, binI, AO.row?, splice, fillL, mmAll, loadV, storeV, zeros, Am.rowAt, Am.part, addOff, Nat.reduceAdd, Nat.reduceMul, Nat.reduceLeDiff, Nat.reduceSub, Nat.reduceLT, Int.reduceEq, Int.reduceLT, Int.reduceLE, Int.reduceGT, Int.reduceGE, Int.reduceAdd, Int.reduceSub, Int.reduceMul, Int.reduceNeg, Int.reduceToNat, reduceCtorEq, reduceIte, lenV_sl H.i, elem_pt H.i, view_sl H.i, scalar_sl H.i, cells_sl H.i, pure_sl H.i, Int.toNat_natCast, lenV_sl V, view_sl V, scalar_sl V, cells_sl V, pure_sl V, lenV_sl Y, view_sl Y, scalar_sl Y, cells_sl Y, pure_sl Y, g, g2, hv, a1, gUn, decide_true, decide_false, Bool.false_eq_true, Bool.false_and]
    done
  · simp only [h1] at a1
    simp (disch := first | assumption | omega | (simp only [az]; done)) only [ru, eq_self, if_true, if_false, BEq.rfl, binI, AO.row?, splice, fillL, mmAll, loadV, storeV, zeros, Am.rowAt, Am.part, addOff, Nat.reduceAdd, Nat.reduceMul, Nat.reduceLeDiff, Nat.reduceSub, Nat.reduceLT, Int.reduceEq, Int.reduceLT, Int.reduceLE, Int.reduceGT, Int.reduceGE, Int.reduceAdd, Int.reduceSub, Int.reduceMul, Int.reduceNeg, Int.reduceToNat, reduceCtorEq, reduceIte, lenV_sl H.i, elem_pt H.i, view_sl H.i, scalar_sl H.i, cells_sl H.i, pure_sl H.i, Int.toNat_natCast, lenV_sl V, view_sl V, scalar_sl V, cells_sl V, pure_sl V, lenV_sl Y, view_sl Y, scalar_sl Y, cells_sl Y, pure_sl Y, g, g2, hv, a1, a2, gUn, decide_true, decide_false, Bool.false_eq_true, Bool.true_and]
    done
theorem s61 (H : TbOk t v) {l : List Int} {w : AV} (V : IsSl 1 intL l w) (hl : l.length ≤ 1000) (st : Bool) : Iso E 61 [v, w] st = some (askR t (cutB t l) (rS t l)) := by
  have VN : IsSl 1 intL [] .nils := .inr ⟨rfl, rfl⟩
  have cN : cutB t [] = true := rfl
  have g := fun st => s98 H V hl VN (by simp) st
  simp only [opE, cN, Bool.and_true] at g
  refine Iso_of (es _ _ _ _) e61 ?_
  simp only [f61, askR, erR]
  cases hv : tval t
  · simp only [knE, hv, Bool.false_eq_true, if_false] at g
    simp (disch := first | assumption | omega | (simp only [az]; done)) only [ru, eq_self, if_true, if_false, BEq.rfl, binI, AO.row?, splice, fillL, mmAll, loadV, storeV, zeros, Am.rowAt, Am.part, addOff, Nat.reduceAdd, Nat.reduceMul, Nat.reduceLeDiff, Nat.reduceSub, Nat.reduceLT, Int.reduceEq, Int.reduceLT, Int.reduceLE, Int.reduceGT, Int.reduceGE, Int.reduceAdd, Int.reduceSub, Int.reduceMul, Int.reduceNeg, Int.reduceToNat, reduceCtorEq, reduceIte, lenV_sl H.i, elem_pt H.i, view_sl H.i, scalar_sl H.i, cells_sl H.i, pure_sl H.i, Int.toNat_natCast, lenV_sl V, view_sl V, scalar_sl V, cells_sl V, pure_sl V, view_nils, g, decide_true, decide_false, Bool.false_eq_true, finC2, getRes, Option.some.injEq, exists_eq_left']
    done
  have T := tval_W hv
  have n8 := T.n
  cases hc : cutB t l
  · simp only [knE, hv, hc, if_true, Bool.false_eq_true, if_false] at g
    simp (disch := first | assumption | omega | (simp only [az]; done)) only [ru, eq_self, if_true, if_false, BEq.rfl, binI, AO.row?, splice, fillL, mmAll, loadV, storeV, zeros, Am.rowAt, Am.part, addOff, Nat.reduceAdd, Nat.reduceMul, Nat.reduceLeDiff, Nat.reduceSub, Nat.reduceLT, Int.reduceEq, Int.reduceLT, Int.reduceLE, Int.reduceGT, Int.reduceGE, Int.reduceAdd, Int.reduceSub, Int.reduceMul, Int.reduceNeg, Int.reduceToNat, reduceCtorEq, reduceIte, lenV_sl H.i, elem_pt H.i, view_sl H.i, scalar_sl H.i, cells_sl H.i, pure_sl H.i, Int.toNat_natCast, lenV_sl V, view_sl V, scalar_sl V, cells_sl V, pure_sl V, view_nils, g, decide_true, decide_false, Bool.false_eq_true, finC2, getRes, Option.some.injEq, exists_eq_left']
    done
  simp only [btw]
  cases h1 : is1 t
  · simp only [knE, hv, hc, h1, Bool.false_eq_true, if_true, if_false] at g
    simp (disch := first | assumption | omega | (simp only [az]; done)) only [ru, eq_self, if_true, if_false, BEq.rfl, binI, AO.row?, splice, fillL, mmAll, loadV, storeV, zeros, Am.rowAt, Am.part, addOff, Nat.reduceAdd, Nat.reduceMul, Nat.reduceLeDiff, Nat.reduceSub, Nat.reduceLT, Int.reduceEq, Int.reduceLT, Int.reduceLE, Int.reduceGT, Int.reduceGE, Int.reduceAdd, Int.reduceSub, Int.reduceMul, Int.reduceNeg, Int.reduceToNat, reduceCtorEq, reduceIte, lenV_sl H.i, elem_pt H.i, view_sl H.i, scalar_sl H.i, cells_sl H.i, pure_sl H.i, Int.toNat_natCast, lenV_sl V, view_sl V, scalar_sl V, cells_sl V, pure_sl V, view_nils, g, decide_true, decide_false, Bool.false_eq_true, finC2, getRes, Option.some.injEq, exists_eq_left']
    done
  simp only [knE, hv, hc, h1, Bool.false_eq_true, if_true, if_false] at g
  have g75 := fun st => s75 H T V hl st
  have UV := slV_is (esz := 1) (enc := intL) (l := rPay t l)
  obtain ⟨u, hu⟩ : ∃ u, u = slV 1 intL (rPay t l) := ⟨_, rfl⟩
  rw [← hu] at g75 UV
  have g4 := fun st => s94 H T h1 (rS_b T (l := l)) UV st
  simp (disch := first | assumption | omega | (simp only [az]; done)) only [ru, eq_self, if_true, if_false, BEq.rfl, binI, AO.row?, splice, fillL, mmAll, loadV, storeV, zeros, Am.rowAt, Am.part, addOff, Nat.reduceAdd, Nat.reduceMul, Nat.reduceLeDiff, Nat.reduceSub, Nat.reduceLT, Int.reduceEq, Int.reduceLT, Int.reduceLE, Int.reduceGT, Int.reduceGE, Int.reduceAdd, Int.reduceSub, Int.reduceMul, Int.reduceNeg, Int.reduceToNat, reduceCtorEq, reduceIte, lenV_sl H.i, elem_pt H.i, view_sl H.i, scalar_sl H.i, cells_sl H.i, pure_sl H.i, Int.toNat_natCast, lenV_sl V, view_sl V, scalar_sl V, cells_sl V, pure_sl V, lenV_sl UV, view_sl UV, scalar_sl UV, cells_sl UV, pure_sl UV, view_nils, g, g75, g4, decide_true, decide_false, Bool.false_eq_true, finC2, getRes, Option.some.injEq, exists_eq_left']
  done
theorem rw_shift (k : Nat) (f : Nat → Int) (n : Nat) : (rw_ k f).map (AV.shift n) = rw_ k f := ints_shift _ n
theorem c75 (H : TbOk t v) (T : TW t) {l : List Int} {w : AV} (V : IsSl 1 intL l w) (hl : l.length ≤ 1000) (g : List AO) : ∃ o H', C2 E 75 [v, w] g = some (.ms 1 o 0 t.length, H') ∧ Fr g H' ∧ g.length ≤ o ∧ H'[o]? = some (.cells (rw_ t.length (rS t l)) false) := by
  obtain ⟨o, h', hr, hc⟩ := r75 H T V hl
  refine ⟨o + g.length, _, C2_of (by simp only [AV.pureV.go, pure_sl H.i, pure_sl V, Bool.and_true]) hr, Fr.app _ _, by omega, ?_⟩
  rw [List.getElem?_append_right (by omega), Nat.add_sub_cancel, List.getElem?_map, hc]
  simp only [Option.map_some, AO.shift, rw_shift]
set_option maxHeartbeats 4000000 in
theorem s62 (H : TbOk t v) {l m : List Int} {w y : AV} (V : IsSl 1 intL l w) (hl : l.length ≤ 1000) (Y : IsSl 1 intL m y) (hm : m.length ≤ 1000) (st : Bool) : Iso E 62 [v, w, y] st = some (rnkR t l m) := by
  have sp := H.n
  have g := fun st => s98 H V hl Y hm st
  simp only [opE] at g
  refine Iso_of (es _ _ _ _) e62 ?_
  simp only [f62, rnkR]
  cases hv : tval t
  · simp only [knE, hv, Bool.false_eq_true, if_false] at g
    simp (disch := first | assumption | omega | (simp only [az]; done)) only [ru, eq_self, if_true, if_false, BEq.rfl, binI, AO.row?, splice, fillL, mmAll, loadV, storeV, zeros, Am.rowAt, Am.part, addOff, Nat.reduceAdd, Nat.reduceMul, Nat.reduceLeDiff, Nat.reduceSub, Nat.reduceLT, Int.reduceEq, Int.reduceLT, Int.reduceLE, Int.reduceGT, Int.reduceGE, Int.reduceAdd, Int.reduceSub, Int.reduceMul, Int.reduceNeg, Int.reduceToNat, reduceCtorEq, reduceIte, lenV_sl H.i, elem_pt H.i, view_sl H.i, scalar_sl H.i, cells_sl H.i, pure_sl H.i, Int.toNat_natCast, lenV_sl V, view_sl V, scalar_sl V, cells_sl V, pure_sl V, lenV_sl Y, view_sl Y, scalar_sl Y, cells_sl Y, pure_sl Y, g, decide_true, decide_false, Bool.false_eq_true]
    done
  have T := tval_W hv
  have n8 := T.n
  cases hc : (cutB t l && cutB t m)
  · simp only [knE, hv, hc, if_true, Bool.false_eq_true, if_false] at g
    simp (disch := first | assumption | omega | (simp only [az]; done)) only [ru, eq_self, if_true, if_false, BEq.rfl, binI, AO.row?, splice, fillL, mmAll, loadV, storeV, zeros, Am.rowAt, Am.part, addOff, Nat.reduceAdd, Nat.reduceMul, Nat.reduceLeDiff, Nat.reduceSub, Nat.reduceLT, Int.reduceEq, Int.reduceLT, Int.reduceLE, Int.reduceGT, Int.reduceGE, Int.reduceAdd, Int.reduceSub, Int.reduceMul, Int.reduceNeg, Int.reduceToNat, reduceCtorEq, reduceIte, lenV_sl H.i, elem_pt H.i, view_sl H.i, scalar_sl H.i, cells_sl H.i, pure_sl H.i, Int.toNat_natCast, lenV_sl V, view_sl V, scalar_sl V, cells_sl V, pure_sl V, lenV_sl Y, view_sl Y, scalar_sl Y, cells_sl Y, pure_sl Y, g, decide_true, decide_false, Bool.false_eq_true]
    done
  cases h1 : is1 t
  · simp only [knE, hv, hc, h1, Bool.false_eq_true, if_true, if_false] at g
    simp (disch := first | assumption | omega | (simp only [az]; done)) only [ru, eq_self, if_true, if_false, BEq.rfl, binI, AO.row?, splice, fillL, mmAll, loadV, storeV, zeros, Am.rowAt, Am.part, addOff, Nat.reduceAdd, Nat.reduceMul, Nat.reduceLeDiff, Nat.reduceSub, Nat.reduceLT, Int.reduceEq, Int.reduceLT, Int.reduceLE, Int.reduceGT, Int.reduceGE, Int.reduceAdd, Int.reduceSub, Int.reduceMul, Int.reduceNeg, Int.reduceToNat, reduceCtorEq, reduceIte, lenV_sl H.i, elem_pt H.i, view_sl H.i, scalar_sl H.i, cells_sl H.i, pure_sl H.i, Int.toNat_natCast, lenV_sl V, view_sl V, scalar_sl V, cells_sl V, pure_sl V, lenV_sl Y, view_sl Y, scalar_sl Y, cells_sl Y, pure_sl Y, g, decide_true, decide_false, Bool.false_eq_true]
    done
  simp only [knE, hv, hc, h1, Bool.false_eq_true, if_true, if_false] at g
  have c2 : ∀ {lim : Nat} {pl : Option Nat} {ρ : Opd → AV} {h : List AO} {f : Nat} {args : List Opd}, exOp (R E) lim pl ρ h (.call 2 f args) = C2 E f (args.map ρ) h := exOp_call2
  obtain ⟨o1, H1, C1, f1, k1, e1⟩ := c75 H T V hl []
  obtain ⟨o2, H2, C2', f2, k2, e2⟩ := c75 H T Y hm H1
  have e1' := f2.at e1
  have o1l := (List.getElem?_eq_some_iff.1 e1).1
  obtain ⟨R, hR⟩ : ∃ R : Nat → Int, R = fun i => rS t l i - rS t m i := ⟨_, rfl⟩
  have rb : RB R := by rw [hR]; exact rS_d T
  have rbl := rS_b T (l := l)
  have rbm := rS_b T (l := m)
  have UV := slV_is (esz := 1) (enc := intL) (l := rng t.length R)
  obtain ⟨u, hu⟩ : ∃ u, u = slV 1 intL (rng t.length R) := ⟨_, rfl⟩
  rw [← hu] at UV
  have g4 := fun st => s94 H T h1 rb UV st
  have rk : rnk t l m = if loV t R > 0 then 1 else if hiV t R ≤ 0 then 2 else 3 := by rw [hR]; rfl
  rw [rk]
  simp (disch := first | assumption | omega | (simp only [az]; done)) only [ru, eq_self, if_true, if_false, BEq.rfl, binI, AO.row?, splice, fillL, mmAll, loadV, storeV, zeros, Am.rowAt, Am.part, addOff, Nat.reduceAdd, Nat.reduceMul, Nat.reduceLeDiff, Nat.reduceSub, Nat.reduceLT, Int.reduceEq, Int.reduceLT, Int.reduceLE, Int.reduceGT, Int.reduceGE, Int.reduceAdd, Int.reduceSub, Int.reduceMul, Int.reduceNeg, Int.reduceToNat, reduceCtorEq, reduceIte, lenV_sl H.i, elem_pt H.i, view_sl H.i, scalar_sl H.i, cells_sl H.i, pure_sl H.i, Int.toNat_natCast, lenV_sl V, view_sl V, scalar_sl V, cells_sl V, pure_sl V, lenV_sl Y, view_sl Y, scalar_sl Y, cells_sl Y, pure_sl Y, g, c2, C1, C2', decide_true, decide_false]
  refine G_loop_ind (fun z ts hh mk => ∃ j : Nat, j ≤ t.length ∧ z = t.length - j ∧ hh[o1]? = some (.cells (rw_ t.length fun i => if i < j then R i else rS t l i) false) ∧ hh[o2]? = some (.cells (rw_ t.length (rS t m)) false) ∧ ts.length = 53 ∧ ts.getD 0 .undef = v ∧ ts.getD 9 .undef = .ms 1 o1 0 t.length ∧ ts.getD 10 .undef = .ms 1 o2 0 t.length ∧ ts.getD 11 .undef = I j ∧ mk = []) ?_ _ _ _ _
    ⟨0, Nat.zero_le _, rfl, by rw [e1']; congr 2, e2, rfl, rfl, rfl, rfl, rfl, rfl⟩
  rintro z ts hh mk ih ⟨j, hj, rfl, b1, b2, hl', q0, q9, q10, q11, rfl⟩
  rw [lit_all hl']
  simp only [lit0, litS, Nat.reduceAdd, q0, q9, q10, q11]
  by_cases hlt : (j : Int) < t.length
  case neg =>
    obtain rfl : j = t.length := by omega
    have e : (rw_ t.length fun i => if i < t.length then R i else rS t l i) = rw_ t.length R := rw_congr fun i hi => if_pos hi
    rw [e] at b1
    have vw := RdC.view (enc := intL) (esz := 1) (l := rng t.length R) (w := .ms 1 o1 0 t.length) ⟨o1, by rw [rng_len], b1⟩ intE intIv (st := false) (k := 7)
    rw [← hu] at vw
    obtain ⟨lo, hlo⟩ : ∃ lo, lo = loV t R := ⟨_, rfl⟩
    obtain ⟨hi, hhi⟩ : ∃ hi, hi = hiV t R := ⟨_, rfl⟩
    simp only [← hlo, ← hhi] at g4 ⊢
    by_cases d1 : lo > 0
    · simp (disch := first | assumption | omega | (simp only [az]; done)) only [ru, eq_self, if_true, if_false, BEq.rfl, binI, AO.row?, splice, fillL, mmAll, loadV, storeV, zeros, Am.rowAt, Am.part, addOff, Nat.reduceAdd, Nat.reduceMul, Nat.reduceLeDiff, Nat.reduceSub, Nat.reduceLT, Int.reduceEq, Int.reduceLT, Int.reduceLE, Int.reduceGT, Int.reduceGE, Int.reduceAdd, Int.reduceSub, Int.reduceMul, Int.reduceNeg, Int.reduceToNat, reduceCtorEq, reduceIte, lenV_sl H.i, elem_pt H.i, view_sl H.i, scalar_sl H.i, cells_sl H.i, pure_sl H.i, Int.toNat_natCast, lenV_sl UV, elem_in UV, view_sl UV, scalar_sl UV, cells_sl UV, pure_sl UV, Int.toNat_natCast, hlt, decide_false, decide_true, vw, g4, atE, lenE, d1]
      done
    by_cases d2 : hi ≤ 0
    · simp (disch := first | assumption | omega | (simp only [az]; done)) only [ru, eq_self, if_true, if_false, BEq.rfl, binI, AO.row?, splice, fillL, mmAll, loadV, storeV, zeros, Am.rowAt, Am.part, addOff, Nat.reduceAdd, Nat.reduceMul, Nat.reduceLeDiff, Nat.reduceSub, Nat.reduceLT, Int.reduceEq, Int.reduceLT, Int.reduceLE, Int.reduceGT, Int.reduceGE, Int.reduceAdd, Int.reduceSub, Int.reduceMul, Int.reduceNeg, Int.reduceToNat, reduceCtorEq, reduceIte, lenV_sl H.i, elem_pt H.i, view_sl H.i, scalar_sl H.i, cells_sl H.i, pure_sl H.i, Int.toNat_natCast, lenV_sl UV, elem_in UV, view_sl UV, scalar_sl UV, cells_sl UV, pure_sl UV, Int.toNat_natCast, hlt, decide_false, decide_true, vw, g4, atE, lenE, d1, d2]
      done
    · simp (disch := first | assumption | omega | (simp only [az]; done)) only [ru, eq_self, if_true, if_false, BEq.rfl, binI, AO.row?, splice, fillL, mmAll, loadV, storeV, zeros, Am.rowAt, Am.part, addOff, Nat.reduceAdd, Nat.reduceMul, Nat.reduceLeDiff, Nat.reduceSub, Nat.reduceLT, Int.reduceEq, Int.reduceLT, Int.reduceLE, Int.reduceGT, Int.reduceGE, Int.reduceAdd, Int.reduceSub, Int.reduceMul, Int.reduceNeg, Int.reduceToNat, reduceCtorEq, reduceIte, lenV_sl H.i, elem_pt H.i, view_sl H.i, scalar_sl H.i, cells_sl H.i, pure_sl H.i, Int.toNat_natCast, lenV_sl UV, elem_in UV, view_sl UV, scalar_sl UV, cells_sl UV, pure_sl UV, Int.toNat_natCast, hlt, decide_false, decide_true, vw, g4, atE, lenE, d1, d2]
      done
  have hj2 : j < t.length := by omega
  obtain ⟨Z, hZ⟩ : ∃ Z, Z = rw_ t.length fun i => if i < j then R i else rS t l i := ⟨_, rfl⟩
  obtain ⟨Y2, hY⟩ : ∃ Z, Z = rw_ t.length (rS t m) := ⟨_, rfl⟩
  have zl : Z.length = t.length := by rw [hZ, rw_len]
  have hz : (Z.drop j).head? = some (I (rS t l j)) := by rw [hZ, rw_head hj2, if_neg (by omega)]
  have hy : (Y2.drop j).head? = some (I (rS t m j)) := by rw [hY, rw_head hj2]
  have zp : Z.take j ++ I (R j) :: Z.drop (j + 1) = rw_ t.length fun i => if i < j + 1 then R i else rS t l i := by
    have : Z.take j ++ [I (R j)] ++ Z.drop (j + 1) = rw_ t.length fun i => if i < j + 1 then R i else rS t l i := by
      rw [hZ]
      refine rw_put hj2 fun i hi => ?_
      by_cases e : i = j
      · subst e; rw [if_pos rfl, if_pos (by omega)]
      · rw [if_neg e]; by_cases e2 : i < j
        · rw [if_pos e2, if_pos (by omega)]
        · rw [if_neg e2, if_neg (by omega)]
    simpa using this
  have rj : R j = rS t l j - rS t m j := by rw [hR]
  have x1 := rbl j (by omega)
  have x2 := rbm j (by omega)
  obtain ⟨a, ha⟩ : ∃ a, a = rS t l j := ⟨_, rfl⟩
  obtain ⟨b, hb⟩ : ∃ b, b = rS t m j := ⟨_, rfl⟩
  rw [← ha] at hz rj x1
  rw [← hb] at hy rj x2
  rw [rj] at zp
  rw [← hZ] at b1
  rw [← hY] at b2
  have fit : j + 1 ≤ Z.length := by omega
  obtain ⟨N, hN⟩ : ∃ N, N = rw_ t.length fun i => if i < j + 1 then R i else rS t l i := ⟨_, rfl⟩
  rw [← hN] at zp
  simp (disch := first | assumption | omega | (simp only [az]; done)) only [ru, eq_self, if_true, if_false, BEq.rfl, binI, AO.row?, splice, fillL, mmAll, loadV, storeV, zeros, Am.rowAt, Am.part, addOff, Nat.reduceAdd, Nat.reduceMul, Nat.reduceLeDiff, Nat.reduceSub, Nat.reduceLT, Int.reduceEq, Int.reduceLT, Int.reduceLE, Int.reduceGT, Int.reduceGE, Int.reduceAdd, Int.reduceSub, Int.reduceMul, Int.reduceNeg, Int.reduceToNat, reduceCtorEq, reduceIte, lenV_sl H.i, elem_pt H.i, view_sl H.i, scalar_sl H.i, cells_sl H.i, pure_sl H.i, Int.toNat_natCast, hlt, decide_true, elemAt_ms, nn, Int.toNat_natCast, Nat.mul_one, Nat.zero_add, b1, b2, hz, hy, fit, List.append_assoc, zp]
  exact ih (t.length - (j + 1)) _ _ _ (by omega) ⟨j + 1, by omega, rfl, by rw [set_at0 b1, hN], by rw [List.getElem?_set_ne (by omega), b2, hY], rfl, rfl, rfl, rfl, rfl, rfl⟩
end
end Go.Proofs.Yteonklnjchefiaa.S

