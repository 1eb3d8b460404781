/-
CutsTwice: dear and cheap.
-/
import Derived.Test.YteonklnjchefiaaYo
namespace Go.Proofs.Yteonklnjchefiaa.S
open Go Go.Am Go.Proofs.Yteonklnjchefiaa.T
set_option maxRecDepth 100000
set_option linter.unusedSimpArgs false
set_option linter.unusedVariables false

section
variable {t : List Pt} {v w : AV} {l : List Int}
set_option maxHeartbeats 8000000 in
theorem s11 (H0 : TbIn t v) {lx ly : List Int} {x y : AV} (X : IsSl 1 intL lx x) (Y : IsSl 1 intL ly y) : Iso E 11 [v, .agg [x, y]] false = some (Bo true) := by
  have g0 := fun st => s16 H0 st
  refine Iso_of (es _ _ _ _) e11 ?_
  simp only [f11]
  cases hv : tval t
  case false => simp (disch := first | assumption | omega | (simp only [az]; done)) only [ru, eq_self, if_true, if_false, BEq.rfl, binI, AO.row?, splice, fillL, mmAll, loadV, storeV, zeros, Am.rowAt, Am.part, addOff, Nat.reduceAdd, Nat.reduceMul, Nat.reduceLeDiff, Nat.reduceSub, Nat.reduceLT, Int.reduceEq, Int.reduceLT, Int.reduceLE, Int.reduceGT, Int.reduceGE, Int.reduceAdd, Int.reduceSub, Int.reduceMul, Int.reduceNeg, Int.reduceToNat, reduceCtorEq, reduceIte, lenV_sl H0.i, elem_pt H0.i, view_sl H0.i, scalar_sl H0.i, cells_sl H0.i, pure_sl H0.i, Int.toNat_natCast, lenV_sl X, elem_in X, view_sl X, scalar_sl X, cells_sl X, pure_sl X, Int.toNat_natCast, lenV_sl Y, elem_in Y, view_sl Y, scalar_sl Y, cells_sl Y, pure_sl Y, Int.toNat_natCast, g0, hv, gUn, s18, Bool.false_and]
  have T := tval_W hv
  have n8 := T.n
  have n40 : t.length ≤ 40 := by omega
  have H : TbOk t v := ⟨H0.i, by omega⟩
  have g0 : ∀ st, Iso E 16 [v] st = some (Bo true) := fun st => by rw [g0, hv, decide_eq_true n40]; rfl
  have d1 := fun st => s26 H T.toTG X Y st
  cases hd : (decide (lx.length ≤ 40) && decide (ly.length ≤ 40) && cutB t lx && cutB t ly)
  · rw [hd] at d1
    simp (disch := first | assumption | omega | (simp only [az]; done)) only [ru, eq_self, if_true, if_false, BEq.rfl, binI, AO.row?, splice, fillL, mmAll, loadV, storeV, zeros, Am.rowAt, Am.part, addOff, Nat.reduceAdd, Nat.reduceMul, Nat.reduceLeDiff, Nat.reduceSub, Nat.reduceLT, Int.reduceEq, Int.reduceLT, Int.reduceLE, Int.reduceGT, Int.reduceGE, Int.reduceAdd, Int.reduceSub, Int.reduceMul, Int.reduceNeg, Int.reduceToNat, reduceCtorEq, reduceIte, lenV_sl H.i, elem_pt H.i, view_sl H.i, scalar_sl H.i, cells_sl H.i, pure_sl H.i, Int.toNat_natCast, lenV_sl X, elem_in X, view_sl X, scalar_sl X, cells_sl X, pure_sl X, Int.toNat_natCast, lenV_sl Y, elem_in Y, view_sl Y, scalar_sl Y, cells_sl Y, pure_sl Y, Int.toNat_natCast, g0, d1, gUn, s18, decide_true, decide_false, Bool.not_true, Bool.not_false]
  rw [hd] at d1
  simp only [Bool.and_eq_true, decide_eq_true_eq] at hd
  obtain ⟨⟨⟨e1, e2⟩, e3⟩, e4⟩ := hd
  have a2 := fun st => s34 H T st
  cases h1 : is1 t
  · simp (disch := first | assumption | omega | (simp only [az]; done)) only [ru, eq_self, if_true, if_false, BEq.rfl, binI, AO.row?, splice, fillL, mmAll, loadV, storeV, zeros, Am.rowAt, Am.part, addOff, Nat.reduceAdd, Nat.reduceMul, Nat.reduceLeDiff, Nat.reduceSub, Nat.reduceLT, Int.reduceEq, Int.reduceLT, Int.reduceLE, Int.reduceGT, Int.reduceGE, Int.reduceAdd, Int.reduceSub, Int.reduceMul, Int.reduceNeg, Int.reduceToNat, reduceCtorEq, reduceIte, lenV_sl H.i, elem_pt H.i, view_sl H.i, scalar_sl H.i, cells_sl H.i, pure_sl H.i, Int.toNat_natCast, lenV_sl X, elem_in X, view_sl X, scalar_sl X, cells_sl X, pure_sl X, Int.toNat_natCast, lenV_sl Y, elem_in Y, view_sl Y, scalar_sl Y, cells_sl Y, pure_sl Y, Int.toNat_natCast, g0, d1, a2, h1, gUn, s18, decide_true, decide_false, Bool.not_true, Bool.not_false]
  obtain ⟨o, H', hC, fr, ho, hc⟩ := c42 H [.cells [x, y] false]
  simp only [List.length_cons, List.length_nil, Nat.zero_add] at ho
  have i0 : H'[0]? = some (.cells [x, y] false) := fr.at rfl
  simp (disch := first | assumption | omega | (simp only [az]; done)) only [ru, eq_self, if_true, if_false, BEq.rfl, binI, AO.row?, splice, fillL, mmAll, loadV, storeV, zeros, Am.rowAt, Am.part, addOff, Nat.reduceAdd, Nat.reduceMul, Nat.reduceLeDiff, Nat.reduceSub, Nat.reduceLT, Int.reduceEq, Int.reduceLT, Int.reduceLE, Int.reduceGT, Int.reduceGE, Int.reduceAdd, Int.reduceSub, Int.reduceMul, Int.reduceNeg, Int.reduceToNat, reduceCtorEq, reduceIte, lenV_sl H.i, elem_pt H.i, view_sl H.i, scalar_sl H.i, cells_sl H.i, pure_sl H.i, Int.toNat_natCast, lenV_sl X, elem_in X, view_sl X, scalar_sl X, cells_sl X, pure_sl X, Int.toNat_natCast, lenV_sl Y, elem_in Y, view_sl Y, scalar_sl Y, cells_sl Y, pure_sl Y, Int.toNat_natCast, g0, d1, a2, h1, exOp_call2, hC, gUn, decide_true, decide_false, Bool.not_true, Bool.not_false]
  refine G_loop_ind (fun m' ts h mk => ∃ i : Nat, i ≤ t.length ∧ m' = t.length - i ∧ ts.length = 154 ∧ ts.getD 0 .undef = v ∧ ts.getD 3 .undef = .ptr 0 0 ∧ ts.getD 5 .undef = .ms 6 o 0 t.length ∧ ts.getD 6 .undef = I i ∧ h[0]? = some (.cells [x, y] false) ∧ h[o]? = some (.cells ((dblU t i).flatMap Pt.e) false) ∧ mk = []) ?_ _ _ _ _ ⟨0, Nat.zero_le _, rfl, rfl, rfl, rfl, rfl, rfl, i0, hc, rfl⟩
  clear i0 hc
  rintro m' ts h mk ih ⟨i, hi, rfl, hl', q0, q3, q5, q6, i0, hc, rfl⟩
  rw [lit_all hl']
  simp only [lit0, litS, Nat.reduceAdd, q0, q3, q5, q6]
  simp (disch := first | assumption | omega | (simp only [az]; done)) only [ru, eq_self, if_true, if_false, BEq.rfl, binI, AO.row?, splice, fillL, mmAll, loadV, storeV, zeros, Am.rowAt, Am.part, addOff, Nat.reduceAdd, Nat.reduceMul, Nat.reduceLeDiff, Nat.reduceSub, Nat.reduceLT, Int.reduceEq, Int.reduceLT, Int.reduceLE, Int.reduceGT, Int.reduceGE, Int.reduceAdd, Int.reduceSub, Int.reduceMul, Int.reduceNeg, Int.reduceToNat, reduceCtorEq, reduceIte, lenV_sl H.i, elem_pt H.i, view_sl H.i, scalar_sl H.i, cells_sl H.i, pure_sl H.i, Int.toNat_natCast]
  have ol := (List.getElem?_eq_some_iff.1 hc).1
  by_cases hlt : (i : Int) < t.length
  case pos =>
    have hi' : i < t.length := by omega
    have hiD : i < (dblU t i).length := by rw [dblU_len]; exact hi'
    have gt := pt_get6 hiD
    have pt := pt_put6 hiD { (dblU t i).getD i default with p := ((dblU t i).getD i default).p * 2 }
    have ed : (dblU t i).set i { (dblU t i).getD i default with p := ((dblU t i).getD i default).p * 2 } = dblU t (i + 1) := rfl
    rw [ed] at pt
    have ex : (dblU t i).getD i default = t.getD i default := by rw [dblU_at hi, if_neg (by omega)]
    have xp := T.p i hi'
    rw [ex] at gt pt
    obtain ⟨z, hz⟩ : ∃ z, z = t.getD i default := ⟨_, rfl⟩
    rw [← hz] at gt pt xp
    have zl : ((dblU t i).flatMap Pt.e).length = t.length * 6 := by rw [flat_len Pt.el, dblU_len]
    obtain ⟨Z, hZ⟩ : ∃ Z, Z = (dblU t i).flatMap Pt.e := ⟨_, rfl⟩
    rw [← hZ] at gt pt zl hc
    have fit : i * 6 + 6 ≤ Z.length := by omega
    have oc : ∀ W : AO, (h ++ [W])[o]? = some (.cells Z false) := fun W => by rw [at_ap ol]; exact hc
    obtain ⟨Z2, hZ2⟩ : ∃ Z2, Z2 = (dblU t (i + 1)).flatMap Pt.e := ⟨_, rfl⟩
    rw [← hZ2] at pt
    simp only at pt
    simp (disch := first | assumption | omega | (simp only [az]; done)) only [ru, eq_self, if_true, if_false, BEq.rfl, binI, AO.row?, splice, fillL, mmAll, loadV, storeV, zeros, Am.rowAt, Am.part, addOff, Nat.reduceAdd, Nat.reduceMul, Nat.reduceLeDiff, Nat.reduceSub, Nat.reduceLT, Int.reduceEq, Int.reduceLT, Int.reduceLE, Int.reduceGT, Int.reduceGE, Int.reduceAdd, Int.reduceSub, Int.reduceMul, Int.reduceNeg, Int.reduceToNat, reduceCtorEq, reduceIte, lenV_sl H.i, elem_pt H.i, view_sl H.i, scalar_sl H.i, cells_sl H.i, pure_sl H.i, Int.toNat_natCast, hlt, elemAt_ms, nn, Int.toNat_natCast, Nat.zero_add, hc, oc, gt, atE, setE, lenE, Nat.le_refl, fit, List.append_assoc, pt]
    exact ih (t.length - (i + 1)) _ _ _ (by omega) ⟨i + 1, by omega, rfl, rfl, rfl, rfl, rfl, rfl, by rw [List.getElem?_set_ne (by omega)]; exact Fr.at (Fr.app _ _) i0, by rw [List.getElem?_set_self (by simp; omega), hZ2], rfl⟩
  obtain rfl : i = t.length := by omega
  have eD : dblU t t.length = dbl t := rfl
  rw [eD] at hc
  obtain ⟨dv, hdv⟩ : ∃ dv, dv = slV 6 Pt.e (dbl t) := ⟨_, rfl⟩
  have HD : TbOk (dbl t) dv := ⟨by rw [hdv]; exact slV_is, by rw [dbl_len]; omega⟩
  have gD : ∀ st, Iso E 16 [dv] st = some (Bo (tval (dbl t))) := fun st => by rw [s16 ⟨HD.i⟩, decide_eq_true (show (dbl t).length ≤ 40 by rw [dbl_len]; omega), Bool.and_true]
  have vd : ∀ g : List AO, g[o]? = some (.cells ((dbl t).flatMap Pt.e) false) → ∀ k, view false g (k + 1) (.ms 6 o 0 t.length) = some dv := fun g hg k => by
    rw [hdv]
    exact RdC.view (enc := Pt.e) (esz := 6) (l := dbl t) (h := g) (w := .ms 6 o 0 t.length) ⟨o, by rw [dbl_len], hg⟩ Pt.el Pt.iv (st := false) (k := k)
  have vd0 := vd h hc 7
  obtain ⟨CD, hCD⟩ : ∃ CD, CD = (dbl t).flatMap Pt.e := ⟨_, rfl⟩
  rw [← hCD] at hc vd
  cases hvd : tval (dbl t)
  · simp (disch := first | assumption | omega | (simp only [az]; done)) only [ru, eq_self, if_true, if_false, BEq.rfl, binI, AO.row?, splice, fillL, mmAll, loadV, storeV, zeros, Am.rowAt, Am.part, addOff, Nat.reduceAdd, Nat.reduceMul, Nat.reduceLeDiff, Nat.reduceSub, Nat.reduceLT, Int.reduceEq, Int.reduceLT, Int.reduceLE, Int.reduceGT, Int.reduceGE, Int.reduceAdd, Int.reduceSub, Int.reduceMul, Int.reduceNeg, Int.reduceToNat, reduceCtorEq, reduceIte, hlt, vd0, gD, hvd, lenV_sl HD.i, elem_pt HD.i, view_sl HD.i, scalar_sl HD.i, cells_sl HD.i, pure_sl HD.i, Int.toNat_natCast, gUn, s18, Bool.not_true, Bool.not_false]
    done
  have TD := tval_W hvd
  have h1D : is1 (dbl t) = true := by rw [dbl_is1 T TD]; exact h1
  have LX := slV_is (esz := 1) (enc := intL) (l := lx)
  have LY := slV_is (esz := 1) (enc := intL) (l := ly)
  have c1 := fun st => s27 H LX (by omega) st
  have c2 := fun st => s28 H LX (by omega) LY (by omega) st
  have c3 := fun st => s27 HD LX (by omega) st
  have c4 := fun st => s28 HD LX (by omega) LY (by omega) st
  have c5 := fun st => s46 H st
  have c6 := fun st => s46 HD st
  simp only [askR, rnkR, cutO, hv, hvd, dbl_cut, e3, e4, if_true, btw, h1, h1D, Bool.and_true, dbl_rS, dbl_lo T TD h1, dbl_hi T TD h1, dbl_rnk T TD h1, dbl_bcut T TD h1] at c1 c2 c3 c4 c5 c6
  have pn : 0 ≤ loV t (rS t lx) := prc_nn T h1
  have pq : loV t (rS t lx) ≤ hiV t (rS t lx) := by
    obtain ⟨⟨u, a, b⟩, c⟩ := loV_spec (r := rS t lx) T.toTG h1
    have := (hiV_spec (r := rS t lx) T.toTG h1).2 u a
    omega
  have qs : hiV t (rS t lx) < 1000000 := by
    obtain ⟨u, a, b⟩ := (hiV_spec (r := rS t lx) T.toTG h1).1
    have := lin_small (r := rS t lx) (u := u) (n := t.length) (fun i hi => rS_b T i (by omega)) (fun i hi => (a.1 i hi).1) (Nat.le_refl _)
    omega
  obtain ⟨X1, hX1⟩ : ∃ X1, X1 = loV t (rS t lx) := ⟨_, rfl⟩
  obtain ⟨X2, hX2⟩ : ∃ X2, X2 = hiV t (rS t lx) := ⟨_, rfl⟩
  simp only [← hX1, ← hX2] at c1 c3 pn pq qs
  have pl := fun st => s49 X1 X2 X1 X2 (2 * X1) (2 * X2) (by omega) (by omega) (by omega) (by omega) (by omega) st
  have BV := resL_is (bcut t)
  have bl := cut_len (best_spec2 (t := t)).1
  obtain ⟨B, hB⟩ : ∃ B, B = bcut t := ⟨_, rfl⟩
  obtain ⟨bv, hbv⟩ : ∃ bv, bv = resL (bcut t) := ⟨_, rfl⟩
  rw [← hbv] at BV c5 c6
  rw [← hB] at BV bl
  have sb := fun st => s50 BV BV (by omega) st
  obtain ⟨k, hk⟩ : ∃ k, k = rnk t lx ly := ⟨_, rfl⟩
  simp only [← hk] at c2 c4
  obtain ⟨lw1, hlw1⟩ : ∃ lw, lw = slV 1 intL lx := ⟨_, rfl⟩
  obtain ⟨lw2, hlw2⟩ : ∃ lw, lw = slV 1 intL ly := ⟨_, rfl⟩
  rw [← hlw1] at LX
  rw [← hlw2] at LY
  simp only [← hlw1, ← hlw2] at c1 c2 c3 c4
  -- the first copy, the first price
  obtain ⟨w3, h3, A3, fr3, R3⟩ := cpyV (eb := 8) (lim := 0) (h := h) X intE intSc (by omega) (by omega) (Nat.zero_le _)
  have vw3 := R3.view intE intIv (st := false) (k := 7)
  have sc3 := R3.sc
  obtain ⟨p4, hp4⟩ : ∃ o, o = h3.length := ⟨_, rfl⟩
  obtain ⟨H4, hH4⟩ : ∃ H4, H4 = h3 ++ [AO.cells [I X1, I X2] false] := ⟨_, rfl⟩
  have at4 : ∀ X : AO, (h3 ++ [X])[p4]? = some X := fun X => by rw [hp4]; exact atE
  have st4 : ∀ X Y : AO, (h3 ++ [X]).set p4 Y = h3 ++ [Y] := fun X Y => by rw [hp4]; exact setE
  have f4 : Fr h H4 := by rw [hH4]; exact fr3.trans (Fr.app _ _)
  have k4 : H4[p4]? = some (.cells [I X1, I X2] false) := by rw [hH4]; exact at4 _
  have z4 := f4.at i0
  have m4 := (List.getElem?_eq_some_iff.1 z4).1
  -- the second copy, the second price
  obtain ⟨w5, h5, A5, fr5, R5⟩ := cpyV (eb := 8) (lim := 0) (h := H4) X intE intSc (by omega) (by omega) (Nat.zero_le _)
  have vw5 := R5.view intE intIv (st := false) (k := 7)
  have sc5 := R5.sc
  obtain ⟨p6, hp6⟩ : ∃ o, o = h5.length := ⟨_, rfl⟩
  obtain ⟨H6, hH6⟩ : ∃ H6, H6 = h5 ++ [AO.cells [I (2 * X1), I (2 * X2)] false] := ⟨_, rfl⟩
  have at6 : ∀ X : AO, (h5 ++ [X])[p6]? = some X := fun X => by rw [hp6]; exact atE
  have st6 : ∀ X Y : AO, (h5 ++ [X]).set p6 Y = h5 ++ [Y] := fun X Y => by rw [hp6]; exact setE
  have f6 : Fr H4 H6 := by rw [hH6]; exact fr5.trans (Fr.app _ _)
  have k6 : H6[p6]? = some (.cells [I (2 * X1), I (2 * X2)] false) := by rw [hH6]; exact at6 _
  have z6 := f6.at z4
  have y6 := f6.at k4
  have vd5 := vd h5 (fr5.at (f4.at hc)) 7
  have vd6 := vd H6 (f6.at (f4.at hc)) 7
  have m6 := (List.getElem?_eq_some_iff.1 z6).1
  -- the first rank
  obtain ⟨w7, y0, y1, A7, R7⟩ := cpyG (eb := 8) (lim := 0) (J := [.tomb, .tomb]) (h := H6) X intE intSc (by omega) (by omega) (Nat.zero_le _)
  obtain ⟨w8, y2, y3, A8, R8⟩ := cpyG (eb := 8) (lim := 0) (J := []) (h := H6 ++ [y0, y1]) Y intE intSc (by omega) (by omega) (Nat.zero_le _)
  have A8' : appG true 0 (H6.length + 3) 1 8 (H6 ++ [y0, y1, .cells [] false, .tomb]) (.ms 1 (H6.length + 2) 0 0) y = some (w8, H6 ++ [y0, y1, y2, y3]) := by
    simpa only [List.append_assoc, List.cons_append, List.nil_append, List.length_append, List.length_cons, List.length_nil, Nat.zero_add, Nat.reduceAdd, Nat.add_assoc] using A8
  have R7' := R7 [y2, y3]
  have R8' := R8 []
  simp only [List.append_assoc, List.cons_append, List.nil_append] at R8'
  obtain ⟨H8, hH8⟩ : ∃ H8, H8 = H6 ++ [y0, y1, y2, y3] := ⟨_, rfl⟩
  rw [← hH8] at A8' R7' R8'
  have vw7 := R7'.view intE intIv (st := false) (k := 7)
  have vw8 := R8'.view intE intIv (st := false) (k := 7)
  have sc7 := R7'.sc
  have sc8 := R8'.sc
  have f8 : Fr H6 H8 := by rw [hH8]; exact Fr.app _ _
  have z8 := f8.at z6
  have m8 := (List.getElem?_eq_some_iff.1 z8).1
  -- the second rank
  obtain ⟨w9, x0, x1, A9, R9⟩ := cpyG (eb := 8) (lim := 0) (J := [.tomb, .tomb]) (h := H8) X intE intSc (by omega) (by omega) (Nat.zero_le _)
  obtain ⟨wa, x2, x3, Aa, Ra⟩ := cpyG (eb := 8) (lim := 0) (J := []) (h := H8 ++ [x0, x1]) Y intE intSc (by omega) (by omega) (Nat.zero_le _)
  have Aa' : appG true 0 (H8.length + 3) 1 8 (H8 ++ [x0, x1, .cells [] false, .tomb]) (.ms 1 (H8.length + 2) 0 0) y = some (wa, H8 ++ [x0, x1, x2, x3]) := by
    simpa only [List.append_assoc, List.cons_append, List.nil_append, List.length_append, List.length_cons, List.length_nil, Nat.zero_add, Nat.reduceAdd, Nat.add_assoc] using Aa
  have R9' := R9 [x2, x3]
  have Ra' := Ra []
  simp only [List.append_assoc, List.cons_append, List.nil_append] at Ra'
  obtain ⟨Ha, hHa⟩ : ∃ Ha, Ha = H8 ++ [x0, x1, x2, x3] := ⟨_, rfl⟩
  rw [← hHa] at Aa' R9' Ra'
  have vw9 := R9'.view intE intIv (st := false) (k := 7)
  have vwa := Ra'.view intE intIv (st := false) (k := 7)
  have sc9 := R9'.sc
  have sca := Ra'.sc
  have fa : Fr H8 Ha := by rw [hHa]; exact Fr.app _ _
  have vda := vd Ha (fa.at (f8.at (f6.at (f4.at hc)))) 7
  rw [← hlw1] at vw3 vw5 vw7 vw9
  rw [← hlw2] at vw8 vwa
  simp (disch := first | assumption | omega | (simp only [az]; done)) only [ru, eq_self, if_true, if_false, BEq.rfl, binI, AO.row?, splice, fillL, mmAll, loadV, storeV, zeros, Am.rowAt, Am.part, addOff, Nat.reduceAdd, Nat.reduceMul, Nat.reduceLeDiff, Nat.reduceSub, Nat.reduceLT, Int.reduceEq, Int.reduceLT, Int.reduceLE, Int.reduceGT, Int.reduceGE, Int.reduceAdd, Int.reduceSub, Int.reduceMul, Int.reduceNeg, Int.reduceToNat, reduceCtorEq, reduceIte, lenV_sl H.i, elem_pt H.i, view_sl H.i, scalar_sl H.i, cells_sl H.i, pure_sl H.i, Int.toNat_natCast, lenV_sl HD.i, elem_pt HD.i, view_sl HD.i, scalar_sl HD.i, cells_sl HD.i, pure_sl HD.i, Int.toNat_natCast, lenV_sl X, elem_in X, view_sl X, scalar_sl X, cells_sl X, pure_sl X, Int.toNat_natCast, lenV_sl Y, elem_in Y, view_sl Y, scalar_sl Y, cells_sl Y, pure_sl Y, Int.toNat_natCast, lenV_sl BV, elem_in BV, view_sl BV, scalar_sl BV, cells_sl BV, pure_sl BV, Int.toNat_natCast, lenV_sl LX, elem_in LX, view_sl LX, scalar_sl LX, cells_sl LX, pure_sl LX, Int.toNat_natCast, lenV_sl LY, elem_in LY, view_sl LY, scalar_sl LY, cells_sl LY, pure_sl LY, Int.toNat_natCast, hlt, vd0, gD, hvd, i0, A3, vw3, sc3.1, sc3.2.1, c1, ← hp4, at4, st4, ← hH4, k4, z4, A5, vw5, sc5.1, sc5.2.1, c3, ← hp6, at6, st6, ← hH6, k6, z6, y6, vd5, vd6, c5, c6, pl, sb, m4, m6, m8, at_ap, GO_mapp, unhN, unhC, setT, setT0, getT, getT0, atT, atT0, A7, A8', vw7, vw8, sc7.1, sc7.2.1, sc8.1, sc8.2.1, c2, z8, A9, Aa', vw9, vwa, sc9.1, sc9.2.1, sca.1, sca.2.1, c4, vda, gUn, s18, decide_true, decide_false, Bool.not_true, Bool.not_false, bne_self_eq_false]
  done
end
end Go.Proofs.Yteonklnjchefiaa.S

