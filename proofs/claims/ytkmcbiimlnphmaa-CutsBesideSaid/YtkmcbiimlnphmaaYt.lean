/-
CutsBeside: fish by fish.
-/
import Derived.Test.YtkmcbiimlnphmaaYs
import Derived.Test.YtkmcbiimlnphmaaYu
namespace Go.Proofs.Ytkmcbiimlnphmaa.S
open Go Go.Am Go.Proofs.Ytkmcbiimlnphmaa.T
set_option maxRecDepth 100000
set_option linter.unusedSimpArgs false
set_option linter.unusedVariables false

theorem app_row {h : List AO} {o : Nat} {l : List Pt} (ib : h[o]? = some (.cells (l.flatMap Pt.e) false)) (hl : l.length ≤ 100) (x : Pt) : appV 0 h 6 48 (.ms 6 o 0 l.length) (.cs 6 1 [I x.of, I x.w.lo, I x.w.hi, I x.s.lo, I x.s.hi, I x.p]) = some (.ms 6 h.length 0 (l.length + 1), h.set o .tomb ++ [.cells ((l ++ [x]).flatMap Pt.e) false]) := by
  have bl : (l.flatMap Pt.e).length = l.length * 6 := flat_len Pt.el _
  rw [appV_ms (n := 1) (xs := [I x.of, I x.w.lo, I x.w.hi, I x.s.lo, I x.s.hi, I x.p]) ib (by omega) rfl rfl rfl rfl (by omega) (by omega) (Nat.zero_le _), if_neg (by omega)]
  simp [Pt.e]
theorem app_int {h : List AO} {o : Nat} {l : List Int} (ib : h[o]? = some (.cells (l.flatMap intL) false)) (hl : l.length ≤ 100) (x : Int) : appV 0 h 1 8 (.ms 1 o 0 l.length) (.cs 1 1 [I x]) = some (.ms 1 h.length 0 (l.length + 1), h.set o .tomb ++ [.cells ((l ++ [x]).flatMap intL) false]) := by
  have bl : (l.flatMap intL).length = l.length * 1 := flat_len intE _
  rw [appV_ms (n := 1) (xs := [I x]) ib (by omega) rfl rfl rfl rfl (by omega) (by omega) (Nat.zero_le _), if_neg (by omega)]
  simp [intL]
theorem nn_ask {t : List Pt} (T : TW t) (h1 : is1 t = true) {r : Nat → Int} (hr : ∀ i, i < t.length → 0 ≤ r i ∧ r i ≤ 100) : 0 ≤ loV t r ∧ loV t r ≤ hiV t r ∧ hiV t r < 400000 := by
  obtain ⟨⟨u1, a1, b1⟩, c1⟩ := loV_spec (r := r) T.toTG h1
  obtain ⟨⟨u2, a2, b2⟩, c2⟩ := hiV_spec (r := r) T.toTG h1
  have n8 := T.n
  have e2 := lin_small (r := r) (u := u2) (n := t.length) (fun i hi => by have := hr i hi; omega) (fun i hi => (a2.1 i hi).1) (Nat.le_refl _)
  have nn : ∀ k, k ≤ t.length → 0 ≤ lin r u1 k := by
    intro k
    induction k with
    | zero => intro _; exact Int.le_refl _
    | succ k ih =>
      intro hk
      have h1 := ih (by omega)
      have := Int.mul_nonneg (hr k (by omega)).1 (a1.1 k (by omega)).1.1
      simp only [lin]; omega
  have e1 := nn _ (Nat.le_refl _)
  have e3 := c2 u1 a1
  omega
theorem rW_nn {t : List Pt} (i : Nat) : 0 ≤ rW t i ∧ rW t i ≤ 100 := by unfold rW; split <;> omega
theorem rS_nn {t : List Pt} (T : TW t) {l : List Int} (i : Nat) : 0 ≤ rS t l i ∧ rS t l i ≤ 100 := by
  unfold rS; split
  · rename_i h; exact T.p i h.1
  · omega
section
variable {t u : List Pt} {v w : AV} {lx ly : List Int} {x y : AV}
set_option maxHeartbeats 8000000 in
theorem s10 (H0 : TbIn t v) (K0 : TbIn u w) (X : IsSl 1 intL lx x) (Y : IsSl 1 intL ly y) : Iso E 10 [v, w, .agg [x, y]] false = some (Bo true) := by
  have g0 := fun st => s16 H0 st
  have g1 := fun st => s16 K0 st
  refine Iso_of (es _ _ _ _) e10 ?_
  simp only [f10]
  cases hv : tval t
  case false => simp (disch := first | assumption | omega | (simp only [az]; done)) only [ru, eq_self, if_true, if_false, BEq.rfl, binI, AO.row?, splice, fillL, mmAll, loadV, storeV, zeros, Am.rowAt, Am.part, addOff, Nat.reduceAdd, Nat.reduceMul, Nat.reduceLeDiff, Nat.reduceSub, Nat.reduceLT, Int.reduceEq, Int.reduceLT, Int.reduceLE, Int.reduceGT, Int.reduceGE, Int.reduceAdd, Int.reduceSub, Int.reduceMul, Int.reduceNeg, Int.reduceToNat, reduceCtorEq, reduceIte, lenV_sl H0.i, elem_pt H0.i, view_sl H0.i, scalar_sl H0.i, cells_sl H0.i, pure_sl H0.i, Int.toNat_natCast, lenV_sl K0.i, elem_pt K0.i, view_sl K0.i, scalar_sl K0.i, cells_sl K0.i, pure_sl K0.i, Int.toNat_natCast, lenV_sl X, elem_in X, view_sl X, scalar_sl X, cells_sl X, pure_sl X, Int.toNat_natCast, lenV_sl Y, elem_in Y, view_sl Y, scalar_sl Y, cells_sl Y, pure_sl Y, Int.toNat_natCast, g0, hv, gUn, s18, Bool.false_and]
  have T := tval_W hv
  have n8 := T.n
  have n40 : t.length ≤ 40 := by omega
  have H : TbOk t v := ⟨H0.i, by omega⟩
  have g0 : ∀ st, Iso E 16 [v] st = some (Bo true) := fun st => by rw [g0, hv, decide_eq_true n40]; rfl
  cases hw : tval u
  case false => simp (disch := first | assumption | omega | (simp only [az]; done)) only [ru, eq_self, if_true, if_false, BEq.rfl, binI, AO.row?, splice, fillL, mmAll, loadV, storeV, zeros, Am.rowAt, Am.part, addOff, Nat.reduceAdd, Nat.reduceMul, Nat.reduceLeDiff, Nat.reduceSub, Nat.reduceLT, Int.reduceEq, Int.reduceLT, Int.reduceLE, Int.reduceGT, Int.reduceGE, Int.reduceAdd, Int.reduceSub, Int.reduceMul, Int.reduceNeg, Int.reduceToNat, reduceCtorEq, reduceIte, lenV_sl H0.i, elem_pt H0.i, view_sl H0.i, scalar_sl H0.i, cells_sl H0.i, pure_sl H0.i, Int.toNat_natCast, lenV_sl K0.i, elem_pt K0.i, view_sl K0.i, scalar_sl K0.i, cells_sl K0.i, pure_sl K0.i, Int.toNat_natCast, lenV_sl X, elem_in X, view_sl X, scalar_sl X, cells_sl X, pure_sl X, Int.toNat_natCast, lenV_sl Y, elem_in Y, view_sl Y, scalar_sl Y, cells_sl Y, pure_sl Y, Int.toNat_natCast, g0, g1, hw, gUn, s18, Bool.false_and, Bool.not_true]
  have U := tval_W hw
  have m8 := U.n
  have m40 : u.length ≤ 40 := by omega
  have K : TbOk u w := ⟨K0.i, by omega⟩
  have g1 : ∀ st, Iso E 16 [w] st = some (Bo true) := fun st => by rw [g1, hw, decide_eq_true m40]; rfl
  by_cases hl : (lx.length : Int) > 40
  · simp (disch := first | assumption | omega | (simp only [az]; done)) only [ru, eq_self, if_true, if_false, BEq.rfl, binI, AO.row?, splice, fillL, mmAll, loadV, storeV, zeros, Am.rowAt, Am.part, addOff, Nat.reduceAdd, Nat.reduceMul, Nat.reduceLeDiff, Nat.reduceSub, Nat.reduceLT, Int.reduceEq, Int.reduceLT, Int.reduceLE, Int.reduceGT, Int.reduceGE, Int.reduceAdd, Int.reduceSub, Int.reduceMul, Int.reduceNeg, Int.reduceToNat, reduceCtorEq, reduceIte, lenV_sl H0.i, elem_pt H0.i, view_sl H0.i, scalar_sl H0.i, cells_sl H0.i, pure_sl H0.i, Int.toNat_natCast, lenV_sl K0.i, elem_pt K0.i, view_sl K0.i, scalar_sl K0.i, cells_sl K0.i, pure_sl K0.i, Int.toNat_natCast, lenV_sl X, elem_in X, view_sl X, scalar_sl X, cells_sl X, pure_sl X, Int.toNat_natCast, lenV_sl Y, elem_in Y, view_sl Y, scalar_sl Y, cells_sl Y, pure_sl Y, Int.toNat_natCast, g0, g1, hl, gUn, s18, Bool.not_true, decide_true]
  by_cases hm : (ly.length : Int) > 40
  · simp (disch := first | assumption | omega | (simp only [az]; done)) only [ru, eq_self, if_true, if_false, BEq.rfl, binI, AO.row?, splice, fillL, mmAll, loadV, storeV, zeros, Am.rowAt, Am.part, addOff, Nat.reduceAdd, Nat.reduceMul, Nat.reduceLeDiff, Nat.reduceSub, Nat.reduceLT, Int.reduceEq, Int.reduceLT, Int.reduceLE, Int.reduceGT, Int.reduceGE, Int.reduceAdd, Int.reduceSub, Int.reduceMul, Int.reduceNeg, Int.reduceToNat, reduceCtorEq, reduceIte, lenV_sl H0.i, elem_pt H0.i, view_sl H0.i, scalar_sl H0.i, cells_sl H0.i, pure_sl H0.i, Int.toNat_natCast, lenV_sl K0.i, elem_pt K0.i, view_sl K0.i, scalar_sl K0.i, cells_sl K0.i, pure_sl K0.i, Int.toNat_natCast, lenV_sl X, elem_in X, view_sl X, scalar_sl X, cells_sl X, pure_sl X, Int.toNat_natCast, lenV_sl Y, elem_in Y, view_sl Y, scalar_sl Y, cells_sl Y, pure_sl Y, Int.toNat_natCast, g0, g1, hl, hm, gUn, s18, Bool.not_true, decide_true, decide_false]
  have a1 := fun st => s47 H T.toTG X (by omega) st
  have a2 := fun st => s47 K U.toTG Y (by omega) st
  cases hx : cutB t lx
  · simp (disch := first | assumption | omega | (simp only [az]; done)) only [ru, eq_self, if_true, if_false, BEq.rfl, binI, AO.row?, splice, fillL, mmAll, loadV, storeV, zeros, Am.rowAt, Am.part, addOff, Nat.reduceAdd, Nat.reduceMul, Nat.reduceLeDiff, Nat.reduceSub, Nat.reduceLT, Int.reduceEq, Int.reduceLT, Int.reduceLE, Int.reduceGT, Int.reduceGE, Int.reduceAdd, Int.reduceSub, Int.reduceMul, Int.reduceNeg, Int.reduceToNat, reduceCtorEq, reduceIte, lenV_sl H0.i, elem_pt H0.i, view_sl H0.i, scalar_sl H0.i, cells_sl H0.i, pure_sl H0.i, Int.toNat_natCast, lenV_sl K0.i, elem_pt K0.i, view_sl K0.i, scalar_sl K0.i, cells_sl K0.i, pure_sl K0.i, Int.toNat_natCast, lenV_sl X, elem_in X, view_sl X, scalar_sl X, cells_sl X, pure_sl X, Int.toNat_natCast, lenV_sl Y, elem_in Y, view_sl Y, scalar_sl Y, cells_sl Y, pure_sl Y, Int.toNat_natCast, g0, g1, hl, hm, a1, hx, gUn, s18, Bool.not_true, Bool.not_false, decide_true, decide_false]
  cases hy : cutB u ly
  · simp (disch := first | assumption | omega | (simp only [az]; done)) only [ru, eq_self, if_true, if_false, BEq.rfl, binI, AO.row?, splice, fillL, mmAll, loadV, storeV, zeros, Am.rowAt, Am.part, addOff, Nat.reduceAdd, Nat.reduceMul, Nat.reduceLeDiff, Nat.reduceSub, Nat.reduceLT, Int.reduceEq, Int.reduceLT, Int.reduceLE, Int.reduceGT, Int.reduceGE, Int.reduceAdd, Int.reduceSub, Int.reduceMul, Int.reduceNeg, Int.reduceToNat, reduceCtorEq, reduceIte, lenV_sl H0.i, elem_pt H0.i, view_sl H0.i, scalar_sl H0.i, cells_sl H0.i, pure_sl H0.i, Int.toNat_natCast, lenV_sl K0.i, elem_pt K0.i, view_sl K0.i, scalar_sl K0.i, cells_sl K0.i, pure_sl K0.i, Int.toNat_natCast, lenV_sl X, elem_in X, view_sl X, scalar_sl X, cells_sl X, pure_sl X, Int.toNat_natCast, lenV_sl Y, elem_in Y, view_sl Y, scalar_sl Y, cells_sl Y, pure_sl Y, Int.toNat_natCast, g0, g1, hl, hm, a1, hx, a2, hy, gUn, s18, Bool.not_true, Bool.not_false, decide_true, decide_false]
  obtain ⟨o, H', hC, fr, ho, hc⟩ := c42 H [.cells [x, y] false]
  simp only [List.length_cons, List.length_nil, Nat.zero_add] at ho
  have ol := (List.getElem?_eq_some_iff.1 hc).1
  have i0 : H'[0]? = some (.cells [x, y] false) := fr.at rfl
  obtain ⟨o8, h8, A8, fr8, ho8, hc8⟩ := cpyO (eb := 8) (lim := 0) (h := H') X intE intSc (by omega) (by omega) (Nat.zero_le _)
  have z0 := fr8.at i0
  have zc := fr8.at hc
  have j0 : ∀ W : AO, (H' ++ [W])[0]? = some (.cells [x, y] false) := fun W => Fr.at (Fr.app _ _) i0
  simp (disch := first | assumption | omega | (simp only [az]; done)) only [ru, eq_self, if_true, if_false, BEq.rfl, binI, AO.row?, splice, fillL, mmAll, loadV, storeV, zeros, Am.rowAt, Am.part, addOff, Nat.reduceAdd, Nat.reduceMul, Nat.reduceLeDiff, Nat.reduceSub, Nat.reduceLT, Int.reduceEq, Int.reduceLT, Int.reduceLE, Int.reduceGT, Int.reduceGE, Int.reduceAdd, Int.reduceSub, Int.reduceMul, Int.reduceNeg, Int.reduceToNat, reduceCtorEq, reduceIte, lenV_sl H0.i, elem_pt H0.i, view_sl H0.i, scalar_sl H0.i, cells_sl H0.i, pure_sl H0.i, Int.toNat_natCast, lenV_sl K0.i, elem_pt K0.i, view_sl K0.i, scalar_sl K0.i, cells_sl K0.i, pure_sl K0.i, Int.toNat_natCast, lenV_sl X, elem_in X, view_sl X, scalar_sl X, cells_sl X, pure_sl X, Int.toNat_natCast, lenV_sl Y, elem_in Y, view_sl Y, scalar_sl Y, cells_sl Y, pure_sl Y, Int.toNat_natCast, g0, g1, hl, hm, a1, hx, a2, hy, exOp_call2, hC, i0, j0, A8, gUn, Bool.not_true, Bool.not_false, decide_true, decide_false]
  refine G_loop_ind (fun m' ts h mk => ∃ (i o : Nat), i ≤ u.length ∧ m' = u.length - i ∧ ts.length = 233 ∧ ts.getD 0 .undef = v ∧ ts.getD 1 .undef = w ∧ ts.getD 5 .undef = .ptr 0 0 ∧ ts.getD 7 .undef = .ms 6 o 0 (t.length + i) ∧ ts.getD 8 .undef = .ms 1 o8 0 lx.length ∧ ts.getD 9 .undef = I i ∧ h[0]? = some (.cells [x, y] false) ∧ h[o8]? = some (.cells (lx.flatMap intL) false) ∧ h[o]? = some (.cells ((t ++ (u.take i).map (shp t.length)).flatMap Pt.e) false) ∧ 0 < o ∧ o ≠ o8 ∧ 0 < o8 ∧ mk = []) ?_ _ _ _ _
    ⟨0, o, Nat.zero_le _, rfl, rfl, rfl, rfl, rfl, rfl, rfl, rfl, z0, hc8, by simpa using zc, by omega, by omega, by omega, rfl⟩
  clear i0 hc z0 zc j0 hC fr ho ol A8 fr8 ho8 hc8
  rintro m' ts h mk ih ⟨i, o, hi, rfl, hl', q0, q1, q5, q7, q8, q9, i0, hc8, hc, o1, o2, o3, rfl⟩
  rw [lit_all hl']
  simp only [lit0, litS, Nat.reduceAdd, q0, q1, q5, q7, q8, q9]
  simp (disch := first | assumption | omega | (simp only [az]; done)) only [ru, eq_self, if_true, if_false, BEq.rfl, binI, AO.row?, splice, fillL, mmAll, loadV, storeV, zeros, Am.rowAt, Am.part, addOff, Nat.reduceAdd, Nat.reduceMul, Nat.reduceLeDiff, Nat.reduceSub, Nat.reduceLT, Int.reduceEq, Int.reduceLT, Int.reduceLE, Int.reduceGT, Int.reduceGE, Int.reduceAdd, Int.reduceSub, Int.reduceMul, Int.reduceNeg, Int.reduceToNat, reduceCtorEq, reduceIte, lenV_sl K.i, elem_pt K.i, view_sl K.i, scalar_sl K.i, cells_sl K.i, pure_sl K.i, Int.toNat_natCast]
  have ol := (List.getElem?_eq_some_iff.1 hc).1
  have ol8 := (List.getElem?_eq_some_iff.1 hc8).1
  by_cases hlt : (i : Int) < u.length
  case pos =>
    have hi' : i < u.length := by omega
    have tk : u.take (i + 1) = u.take i ++ [u.getD i default] := by
      rw [List.take_add_one, List.getElem?_eq_getElem hi']
      simp only [List.getD_eq_getElem?_getD, List.getElem?_eq_getElem hi']; rfl
    have ll : (t ++ (u.take i).map (shp t.length)).length = t.length + i := by simp; omega
    obtain ⟨z, hz⟩ : ∃ z, z = u.getD i default := ⟨_, rfl⟩
    have zo := U.of i hi'
    rw [← hz] at tk zo
    have lt' : ((t ++ (u.take i).map (shp t.length)) ++ [shp t.length z]) = t ++ (u.take (i + 1)).map (shp t.length) := by rw [tk]; simp
    have ap : ∀ W : AO, appV 0 (h ++ [W]) 6 48 (.ms 6 o 0 (t.length + i)) (.cs 6 1 [I (shp t.length z).of, I (shp t.length z).w.lo, I (shp t.length z).w.hi, I (shp t.length z).s.lo, I (shp t.length z).s.hi, I (shp t.length z).p]) = some (.ms 6 (h.length + 1) 0 (t.length + i + 1), (h ++ [W]).set o .tomb ++ [.cells ((t ++ (u.take (i + 1)).map (shp t.length)).flatMap Pt.e) false]) := fun W => by
      have := app_row (h := h ++ [W]) (o := o) (l := t ++ (u.take i).map (shp t.length)) (by rw [at_ap ol]; exact hc) (by omega) (shp t.length z)
      rw [ll, lt', lenE] at this; exact this
    rw [shp_w.1, shp_w.2.1, shp_w.2.2] at ap
    have nx : ∀ (W Z : AO), ((h ++ [W]).set o .tomb ++ [Z])[0]? = some (.cells [x, y] false) ∧ ((h ++ [W]).set o .tomb ++ [Z])[o8]? = some (.cells (lx.flatMap intL) false) ∧ ((h ++ [W]).set o .tomb ++ [Z])[h.length + 1]? = some Z := fun W Z => by
      refine ⟨?_, ?_, ?_⟩
      · rw [List.getElem?_append_left (by simp), List.getElem?_set_ne (by omega)]; exact Fr.at (Fr.app _ _) i0
      · rw [List.getElem?_append_left (by simp; omega), List.getElem?_set_ne (by omega)]; exact Fr.at (Fr.app _ _) hc8
      · rw [List.getElem?_append_right (by simp)]; simp
    by_cases e : z.of = -1
    · have es : (shp t.length z).of = z.of := by unfold shp; rw [if_pos e]
      rw [es, e] at ap
      simp (disch := first | assumption | omega | (simp only [az]; done)) only [ru, eq_self, if_true, if_false, BEq.rfl, binI, AO.row?, splice, fillL, mmAll, loadV, storeV, zeros, Am.rowAt, Am.part, addOff, Nat.reduceAdd, Nat.reduceMul, Nat.reduceLeDiff, Nat.reduceSub, Nat.reduceLT, Int.reduceEq, Int.reduceLT, Int.reduceLE, Int.reduceGT, Int.reduceGE, Int.reduceAdd, Int.reduceSub, Int.reduceMul, Int.reduceNeg, Int.reduceToNat, reduceCtorEq, reduceIte, lenV_sl K.i, elem_pt K.i, view_sl K.i, scalar_sl K.i, cells_sl K.i, pure_sl K.i, Int.toNat_natCast, lenV_sl H.i, elem_pt H.i, view_sl H.i, scalar_sl H.i, cells_sl H.i, pure_sl H.i, Int.toNat_natCast, hlt, ← hz, e, atE, setE, lenE, Nat.le_refl, exOp_litS, AV.pureV.go, AV.pureV, Bool.and_true, ap]
      exact ih (u.length - (i + 1)) _ _ _ (by omega) ⟨i + 1, h.length + 1, by omega, rfl, rfl, rfl, rfl, rfl, rfl, rfl, rfl, (nx _ _).1, (nx _ _).2.1, (nx _ _).2.2, by omega, by omega, o3, rfl⟩
    · have es : (shp t.length z).of = z.of + t.length := by unfold shp; rw [if_neg e]
      rw [es] at ap
      simp (disch := first | assumption | omega | (simp only [az]; done)) only [ru, eq_self, if_true, if_false, BEq.rfl, binI, AO.row?, splice, fillL, mmAll, loadV, storeV, zeros, Am.rowAt, Am.part, addOff, Nat.reduceAdd, Nat.reduceMul, Nat.reduceLeDiff, Nat.reduceSub, Nat.reduceLT, Int.reduceEq, Int.reduceLT, Int.reduceLE, Int.reduceGT, Int.reduceGE, Int.reduceAdd, Int.reduceSub, Int.reduceMul, Int.reduceNeg, Int.reduceToNat, reduceCtorEq, reduceIte, lenV_sl K.i, elem_pt K.i, view_sl K.i, scalar_sl K.i, cells_sl K.i, pure_sl K.i, Int.toNat_natCast, lenV_sl H.i, elem_pt H.i, view_sl H.i, scalar_sl H.i, cells_sl H.i, pure_sl H.i, Int.toNat_natCast, hlt, ← hz, e, atE, setE, lenE, Nat.le_refl, exOp_litS, AV.pureV.go, AV.pureV, Bool.and_true, ap]
      exact ih (u.length - (i + 1)) _ _ _ (by omega) ⟨i + 1, h.length + 1, by omega, rfl, rfl, rfl, rfl, rfl, rfl, rfl, rfl, (nx _ _).1, (nx _ _).2.1, (nx _ _).2.2, by omega, by omega, o3, rfl⟩
  obtain rfl : i = u.length := by omega
  rw [List.take_length] at hc
  have hc' : h[o]? = some (.cells ((sdb t u).flatMap Pt.e) false) := hc
  obtain ⟨CD, hCD⟩ : ∃ CD, CD = (sdb t u).flatMap Pt.e := ⟨_, rfl⟩
  rw [← hCD] at hc'
  have ry := cut_rng hy
  simp (disch := first | assumption | omega | (simp only [az]; done)) only [ru, eq_self, if_true, if_false, BEq.rfl, binI, AO.row?, splice, fillL, mmAll, loadV, storeV, zeros, Am.rowAt, Am.part, addOff, Nat.reduceAdd, Nat.reduceMul, Nat.reduceLeDiff, Nat.reduceSub, Nat.reduceLT, Int.reduceEq, Int.reduceLT, Int.reduceLE, Int.reduceGT, Int.reduceGE, Int.reduceAdd, Int.reduceSub, Int.reduceMul, Int.reduceNeg, Int.reduceToNat, reduceCtorEq, reduceIte, hlt, i0, lenV_sl Y, elem_in Y, view_sl Y, scalar_sl Y, cells_sl Y, pure_sl Y, Int.toNat_natCast]
  clear ih hlt hl' q0 q1 q5 q7 q8 q9 hc ol ol8
  refine G_loop_ind (fun m' ts h mk => ∃ (i o8 : Nat), i ≤ ly.length ∧ m' = ly.length - i ∧ ts.length = 233 ∧ ts.getD 0 .undef = v ∧ ts.getD 1 .undef = w ∧ ts.getD 5 .undef = .ptr 0 0 ∧ ts.getD 7 .undef = .ms 6 o 0 (t.length + u.length) ∧ ts.getD 8 .undef = .ms 1 o8 0 (lx.length + i) ∧ ts.getD 11 .undef = I i ∧ h[0]? = some (.cells [x, y] false) ∧ h[o8]? = some (.cells ((lx ++ (ly.take i).map fun a : Int => a + (t.length : Int)).flatMap intL) false) ∧ h[o]? = some (.cells CD false) ∧ 0 < o ∧ o ≠ o8 ∧ 0 < o8 ∧ mk = []) ?_ _ _ _ _
    ⟨0, o8, Nat.zero_le _, rfl, rfl, rfl, rfl, rfl, rfl, rfl, rfl, i0, by simpa using hc8, hc', o1, o2, o3, rfl⟩
  clear i0 hc8 hc' o2 o3
  rintro m' ts h mk ih ⟨i, o8, hi, rfl, hl', q0, q1, q5, q7, q8, q11, i0, hc8, hc, o2, o3, o4, rfl⟩
  rw [lit_all hl']
  simp only [lit0, litS, Nat.reduceAdd, q0, q1, q5, q7, q8, q11]
  have ol := (List.getElem?_eq_some_iff.1 hc).1
  have ol8 := (List.getElem?_eq_some_iff.1 hc8).1
  simp (disch := first | assumption | omega | (simp only [az]; done)) only [ru, eq_self, if_true, if_false, BEq.rfl, binI, AO.row?, splice, fillL, mmAll, loadV, storeV, zeros, Am.rowAt, Am.part, addOff, Nat.reduceAdd, Nat.reduceMul, Nat.reduceLeDiff, Nat.reduceSub, Nat.reduceLT, Int.reduceEq, Int.reduceLT, Int.reduceLE, Int.reduceGT, Int.reduceGE, Int.reduceAdd, Int.reduceSub, Int.reduceMul, Int.reduceNeg, Int.reduceToNat, reduceCtorEq, reduceIte, i0, lenV_sl Y, elem_in Y, view_sl Y, scalar_sl Y, cells_sl Y, pure_sl Y, Int.toNat_natCast]
  by_cases hlt : (i : Int) < ly.length
  case pos =>
    have hi' : i < ly.length := by omega
    have tk : ly.take (i + 1) = ly.take i ++ [ly.getD i 0] := by
      rw [List.take_add_one, List.getElem?_eq_getElem hi']
      simp only [List.getD_eq_getElem?_getD, List.getElem?_eq_getElem hi']; rfl
    have zr : 0 ≤ ly.getD i 0 ∧ ly.getD i 0 < u.length := ry _ (getD_mem hi')
    obtain ⟨z, hz⟩ : ∃ z, z = ly.getD i 0 := ⟨_, rfl⟩
    rw [← hz] at tk zr
    have ll : (lx ++ (ly.take i).map fun a : Int => a + (t.length : Int)).length = lx.length + i := by simp; omega
    have lt' : (lx ++ (ly.take i).map fun a : Int => a + (t.length : Int)) ++ [z + (t.length : Int)] = lx ++ (ly.take (i + 1)).map fun a : Int => a + (t.length : Int) := by rw [tk]; simp
    have ap : appV 0 h 1 8 (.ms 1 o8 0 (lx.length + i)) (.cs 1 1 [I (z + (t.length : Int))]) = some (.ms 1 h.length 0 (lx.length + i + 1), h.set o8 .tomb ++ [.cells ((lx ++ (ly.take (i + 1)).map fun a : Int => a + (t.length : Int)).flatMap intL) false]) := by
      have := app_int hc8 (by omega) (z + (t.length : Int))
      rw [ll, lt'] at this; exact this
    have nx : ∀ Z : AO, (h.set o8 .tomb ++ [Z])[0]? = some (.cells [x, y] false) ∧ (h.set o8 .tomb ++ [Z])[o]? = some (.cells CD false) ∧ (h.set o8 .tomb ++ [Z])[h.length]? = some Z := fun Z => by
      refine ⟨?_, ?_, ?_⟩
      · rw [List.getElem?_append_left (by simp; omega), List.getElem?_set_ne (by omega)]; exact i0
      · rw [List.getElem?_append_left (by simp; omega), List.getElem?_set_ne (by omega)]; exact hc
      · rw [List.getElem?_append_right (by simp)]; simp
    simp (disch := first | assumption | omega | (simp only [az]; done)) only [ru, eq_self, if_true, if_false, BEq.rfl, binI, AO.row?, splice, fillL, mmAll, loadV, storeV, zeros, Am.rowAt, Am.part, addOff, Nat.reduceAdd, Nat.reduceMul, Nat.reduceLeDiff, Nat.reduceSub, Nat.reduceLT, Int.reduceEq, Int.reduceLT, Int.reduceLE, Int.reduceGT, Int.reduceGE, Int.reduceAdd, Int.reduceSub, Int.reduceMul, Int.reduceNeg, Int.reduceToNat, reduceCtorEq, reduceIte, lenV_sl H.i, elem_pt H.i, view_sl H.i, scalar_sl H.i, cells_sl H.i, pure_sl H.i, Int.toNat_natCast, lenV_sl Y, elem_in Y, view_sl Y, scalar_sl Y, cells_sl Y, pure_sl Y, Int.toNat_natCast, i0, hlt, ← hz, exOp_litS, AV.pureV.go, AV.pureV, Bool.and_true, ap]
    exact ih (ly.length - (i + 1)) _ _ _ (by omega) ⟨i + 1, h.length, by omega, rfl, rfl, rfl, rfl, rfl, rfl, rfl, rfl, (nx _).1, (nx _).2.2, (nx _).2.1, o2, by omega, by omega, rfl⟩
  obtain rfl : i = ly.length := by omega
  rw [List.take_length] at hc8
  have hc8' : h[o8]? = some (.cells ((sdc t.length lx ly).flatMap intL) false) := hc8
  clear ih hc8 hl' q0 q1 q5 q7 q8 q11
  have eL : (sdc t.length lx ly).length = lx.length + ly.length := sdc_len
  have eO : (sdb t u).length = t.length + u.length := sdb_len
  obtain ⟨dv, hdv⟩ : ∃ dv, dv = slV 6 Pt.e (sdb t u) := ⟨_, rfl⟩
  obtain ⟨kv, hkv⟩ : ∃ kv, kv = slV 1 intL (sdc t.length lx ly) := ⟨_, rfl⟩
  have HD : TbOk (sdb t u) dv := ⟨by rw [hdv]; exact slV_is, by omega⟩
  have KV : IsSl 1 intL (sdc t.length lx ly) kv := by rw [hkv]; exact slV_is
  have gD : ∀ st, Iso E 16 [dv] st = some (Bo (tval (sdb t u))) := fun st => by rw [s16 ⟨HD.i⟩, decide_eq_true (show (sdb t u).length ≤ 40 by omega), Bool.and_true]
  have vd : ∀ g : List AO, g[o]? = some (.cells CD false) → view false g 8 (.ms 6 o 0 (t.length + u.length)) = some dv := fun g hg => by
    rw [hCD] at hg
    rw [hdv]
    exact RdC.view (enc := Pt.e) (esz := 6) (l := sdb t u) (h := g) (w := .ms 6 o 0 (t.length + u.length)) ⟨o, by rw [eO], hg⟩ Pt.el Pt.iv (st := false) (k := 7)
  have vk : ∀ g : List AO, g[o8]? = some (.cells ((sdc t.length lx ly).flatMap intL) false) → view false g 8 (.ms 1 o8 0 (lx.length + ly.length)) = some kv := fun g hg => by
    rw [hkv]
    exact RdC.view (enc := intL) (esz := 1) (l := sdc t.length lx ly) (h := g) (w := .ms 1 o8 0 (lx.length + ly.length)) ⟨o8, by rw [eL], hg⟩ intE intIv (st := false) (k := 7)
  have vd0 := vd h hc
  cases hvd : tval (sdb t u)
  · simp (disch := first | assumption | omega | (simp only [az]; done)) only [ru, eq_self, if_true, if_false, BEq.rfl, binI, AO.row?, splice, fillL, mmAll, loadV, storeV, zeros, Am.rowAt, Am.part, addOff, Nat.reduceAdd, Nat.reduceMul, Nat.reduceLeDiff, Nat.reduceSub, Nat.reduceLT, Int.reduceEq, Int.reduceLT, Int.reduceLE, Int.reduceGT, Int.reduceGE, Int.reduceAdd, Int.reduceSub, Int.reduceMul, Int.reduceNeg, Int.reduceToNat, reduceCtorEq, reduceIte, hlt, vd0, gD, hvd, lenV_sl HD.i, elem_pt HD.i, view_sl HD.i, scalar_sl HD.i, cells_sl HD.i, pure_sl HD.i, Int.toNat_natCast, gUn, s18, Bool.not_true, Bool.not_false]
    done
  have O := tval_W hvd
  have b1 := fun st => s38 H hv st
  have b2 := fun st => s38 K hw st
  have b3 := fun st => s38 HD hvd st
  obtain ⟨k1, k2⟩ := sdb_cha T U O
  have cz := fun {t : List Pt} (T : TW t) (h : chaN t = 0) => show is1 t = true by
    unfold chaN at h
    cases hm : Lst t (cD t) with
    | none => rw [hm] at h; cases h
    | some m =>
      rw [hm] at h
      simp only [Option.getD_some] at h
      subst h
      obtain ⟨f, p, e⟩ := (LstD T.toTG).1 0 hm
      exact (is1_iff T.toTG).2 ⟨f, tru_par.2 ⟨p, e.symm⟩⟩
  have cr := fun {t : List Pt} (T : TW t) => show -1 ≤ chaN t ∧ chaN t ≤ 240 by
    unfold chaN
    cases hm : Lst t (cD t) with
    | none => simp
    | some m => have := cD_rng T hm; simp only [Option.getD_some]; omega
  have r1 := cr T; have r2 := cr U; have r3 := cr O
  have zt := cz T; have zu := cz U; have zo := cz O
  clear cz cr
  obtain ⟨a, ha⟩ : ∃ a, a = chaN t := ⟨_, rfl⟩
  obtain ⟨b, hb⟩ : ∃ b, b = chaN u := ⟨_, rfl⟩
  obtain ⟨c, hc0⟩ : ∃ c, c = chaN (sdb t u) := ⟨_, rfl⟩
  simp only [← ha, ← hb, ← hc0] at b1 b2 b3 k1 k2 r1 r2 r3 zt zu zo
  by_cases c0 : c < 0
  · have mm : mmx false a b < 0 := by have := k1.1 c0; unfold mmx; (repeat' split) <;> first | omega | contradiction
    have n1 : ¬ c ≥ 0 := by omega
    have n2 : ¬ c = 0 := by omega
    simp (disch := first | assumption | omega | (simp only [az]; done)) only [ru, eq_self, if_true, if_false, BEq.rfl, binI, AO.row?, splice, fillL, mmAll, loadV, storeV, zeros, Am.rowAt, Am.part, addOff, Nat.reduceAdd, Nat.reduceMul, Nat.reduceLeDiff, Nat.reduceSub, Nat.reduceLT, Int.reduceEq, Int.reduceLT, Int.reduceLE, Int.reduceGT, Int.reduceGE, Int.reduceAdd, Int.reduceSub, Int.reduceMul, Int.reduceNeg, Int.reduceToNat, reduceCtorEq, reduceIte, hlt, vd0, gD, hvd, lenV_sl HD.i, elem_pt HD.i, view_sl HD.i, scalar_sl HD.i, cells_sl HD.i, pure_sl HD.i, Int.toNat_natCast, lenV_sl H.i, elem_pt H.i, view_sl H.i, scalar_sl H.i, cells_sl H.i, pure_sl H.i, Int.toNat_natCast, lenV_sl K.i, elem_pt K.i, view_sl K.i, scalar_sl K.i, cells_sl K.i, pure_sl K.i, Int.toNat_natCast, b1, b2, b3, c0, mm, n1, n2, gUn, s18, Bool.not_true, Bool.not_false, decide_true, decide_false, bne_self_eq_false]
    done
  have c1 : c ≥ 0 := by omega
  have cs := k2 c1
  have ab : ¬ (a < 0 ∨ b < 0) := fun h => c0 (k1.2 h)
  have mm : ¬ mmx false a b < 0 := by unfold mmx; (repeat' split) <;> first | omega | contradiction
  by_cases cz : c = 0
  case neg =>
    have ws : c = a + b := cs
    subst ws
    simp (disch := first | assumption | omega | (simp only [az]; done)) only [ru, eq_self, if_true, if_false, BEq.rfl, binI, AO.row?, splice, fillL, mmAll, loadV, storeV, zeros, Am.rowAt, Am.part, addOff, Nat.reduceAdd, Nat.reduceMul, Nat.reduceLeDiff, Nat.reduceSub, Nat.reduceLT, Int.reduceEq, Int.reduceLT, Int.reduceLE, Int.reduceGT, Int.reduceGE, Int.reduceAdd, Int.reduceSub, Int.reduceMul, Int.reduceNeg, Int.reduceToNat, reduceCtorEq, reduceIte, hlt, vd0, gD, hvd, lenV_sl HD.i, elem_pt HD.i, view_sl HD.i, scalar_sl HD.i, cells_sl HD.i, pure_sl HD.i, Int.toNat_natCast, lenV_sl H.i, elem_pt H.i, view_sl H.i, scalar_sl H.i, cells_sl H.i, pure_sl H.i, Int.toNat_natCast, lenV_sl K.i, elem_pt K.i, view_sl K.i, scalar_sl K.i, cells_sl K.i, pure_sl K.i, Int.toNat_natCast, b1, b2, b3, c0, c1, mm, cz, gUn, s18, Bool.not_true, Bool.not_false, decide_true, decide_false, bne_self_eq_false]
    done
  have it := zt (by omega)
  have iu := zu (by omega)
  have io := zo cz
  obtain rfl : a = 0 := by omega
  obtain rfl : b = 0 := by omega
  subst cz
  have mm0 : mmx false 0 0 = 0 := rfl
  have W1 := nn_ask T it (r := rW t) fun i _ => rW_nn i
  have W2 := nn_ask U iu (r := rW u) fun i _ => rW_nn i
  have P1 := nn_ask T it (r := rS t lx) fun i _ => rS_nn T i
  have P2 := nn_ask U iu (r := rS u ly) fun i _ => rS_nn U i
  obtain ⟨w1, w2⟩ := sdb_whole T U O it iu
  obtain ⟨p1, p2⟩ := sdb_price T U O it iu hx hy
  have ccut := sdc_cut T.toTG U.toTG O.toTG hx hy
  have LX := slV_is (esz := 1) (enc := intL) (l := lx)
  have LY := slV_is (esz := 1) (enc := intL) (l := ly)
  have d1 := fun st => s20 H st
  have d2 := fun st => s20 K st
  have d3 := fun st => s20 HD st
  have d4 := fun st => s27 H LX (by omega) st
  have d5 := fun st => s27 K LY (by omega) st
  have d6 := fun st => s27 HD KV (by omega) st
  simp only [askR, hv, hw, hvd, hx, hy, ccut, if_true, btw, it, iu, io, w1, w2, p1, p2] at d1 d2 d3 d4 d5 d6
  obtain ⟨A1, hA1⟩ : ∃ z, z = loV t (rW t) := ⟨_, rfl⟩
  obtain ⟨A2, hA2⟩ : ∃ z, z = hiV t (rW t) := ⟨_, rfl⟩
  obtain ⟨B1, hB1⟩ : ∃ z, z = loV u (rW u) := ⟨_, rfl⟩
  obtain ⟨B2, hB2⟩ : ∃ z, z = hiV u (rW u) := ⟨_, rfl⟩
  obtain ⟨C1, hC1⟩ : ∃ z, z = loV t (rS t lx) := ⟨_, rfl⟩
  obtain ⟨C2, hC2⟩ : ∃ z, z = hiV t (rS t lx) := ⟨_, rfl⟩
  obtain ⟨D1, hD1⟩ : ∃ z, z = loV u (rS u ly) := ⟨_, rfl⟩
  obtain ⟨D2, hD2⟩ : ∃ z, z = hiV u (rS u ly) := ⟨_, rfl⟩
  simp only [← hA1, ← hA2, ← hB1, ← hB2, ← hC1, ← hC2, ← hD1, ← hD2] at d1 d2 d3 d4 d5 d6 W1 W2 P1 P2
  have pl1 := fun st => s49 A1 A2 B1 B2 (A1 + B1) (A2 + B2) (by omega) (by omega) (by omega) rfl rfl st
  have pl2 := fun st => s49 C1 C2 D1 D2 (C1 + D1) (C2 + D2) (by omega) (by omega) (by omega) rfl rfl st
  obtain ⟨q1, hq1⟩ : ∃ q, q = h.length := ⟨_, rfl⟩
  obtain ⟨H1, hH1⟩ : ∃ H1, H1 = h ++ [AO.cells [I A1, I A2] false] := ⟨_, rfl⟩
  obtain ⟨q2, hq2⟩ : ∃ q, q = H1.length := ⟨_, rfl⟩
  obtain ⟨H2, hH2⟩ : ∃ H2, H2 = H1 ++ [AO.cells [I B1, I B2] false] := ⟨_, rfl⟩
  obtain ⟨q3, hq3⟩ : ∃ q, q = H2.length := ⟨_, rfl⟩
  obtain ⟨H3, hH3⟩ : ∃ H3, H3 = H2 ++ [AO.cells [I (A1 + B1), I (A2 + B2)] false] := ⟨_, rfl⟩
  have e2 : q2 = q1 + 1 := by rw [hq2, hH1, hq1]; simp
  have e3 : q3 = q1 + 2 := by rw [hq3, hH2]; simp; omega
  have at1 : ∀ X : AO, (h ++ [X])[q1]? = some X := fun X => by rw [hq1]; exact atE
  have st1 : ∀ X Y : AO, (h ++ [X]).set q1 Y = h ++ [Y] := fun X Y => by rw [hq1]; exact setE
  have at2 : ∀ X : AO, (H1 ++ [X])[q2]? = some X := fun X => by rw [hq2]; exact atE
  have st2 : ∀ X Y : AO, (H1 ++ [X]).set q2 Y = H1 ++ [Y] := fun X Y => by rw [hq2]; exact setE
  have at3 : ∀ X : AO, (H2 ++ [X])[q3]? = some X := fun X => by rw [hq3]; exact atE
  have st3 : ∀ X Y : AO, (H2 ++ [X]).set q3 Y = H2 ++ [Y] := fun X Y => by rw [hq3]; exact setE
  have f1 : Fr h H1 := by rw [hH1]; exact Fr.app _ _
  have f2 : Fr H1 H2 := by rw [hH2]; exact Fr.app _ _
  have f3 : Fr H2 H3 := by rw [hH3]; exact Fr.app _ _
  have f12 := f1.trans f2
  have f13 := f12.trans f3
  have t1 : H3[q1]? = some (.cells [I A1, I A2] false) := f3.at (f2.at (by rw [hH1]; exact at1 _))
  have t2 : H3[q2]? = some (.cells [I B1, I B2] false) := f3.at (by rw [hH2]; exact at2 _)
  have t3 : H3[q3]? = some (.cells [I (A1 + B1), I (A2 + B2)] false) := by rw [hH3]; exact at3 _
  have vd2 := vd H2 (f12.at hc)
  have z3 := f13.at i0
  obtain ⟨w4, h4, E4, fr4, R4⟩ := cpyV (eb := 8) (lim := 0) (h := H3) X intE intSc (by omega) (by omega) (Nat.zero_le _)
  have vw4 := R4.view intE intIv (st := false) (k := 7)
  have sc4 := R4.sc
  have m3 := (List.getElem?_eq_some_iff.1 z3).1
  have y1 := fr4.at t1
  have l4 := (List.getElem?_eq_some_iff.1 (fr4.at t3)).1
  obtain ⟨H5, hH5⟩ : ∃ H5, H5 = h4.set q1 (.cells [I C1, I C2] false) := ⟨_, rfl⟩
  have ne1 : ∀ {j : Nat} {Z : AO}, j ≠ q1 → h4[j]? = some Z → H5[j]? = some Z := fun {j Z} hj hz => by rw [hH5, List.getElem?_set_ne (by omega)]; exact hz
  have s5q : H5[q1]? = some (.cells [I C1, I C2] false) := by rw [hH5, List.getElem?_set_self (by omega)]
  have s50 := ne1 (by omega) (fr4.at z3)
  have s52 := ne1 (by omega) (fr4.at t2)
  have s53 := ne1 (by omega) (fr4.at t3)
  have s5o := ne1 (by omega) (fr4.at (f13.at hc))
  have s5k := ne1 (by omega) (fr4.at (f13.at hc8'))
  have m5 := (List.getElem?_eq_some_iff.1 s50).1
  obtain ⟨w6, h6, E6, fr6, R6⟩ := cpyV (eb := 8) (lim := 0) (h := H5) Y intE intSc (by omega) (by omega) (Nat.zero_le _)
  have vw6 := R6.view intE intIv (st := false) (k := 7)
  have sc6 := R6.sc
  have y2 := fr6.at s52
  have l6 := (List.getElem?_eq_some_iff.1 (fr6.at s53)).1
  obtain ⟨H7, hH7⟩ : ∃ H7, H7 = h6.set q2 (.cells [I D1, I D2] false) := ⟨_, rfl⟩
  have ne2 : ∀ {j : Nat} {Z : AO}, j ≠ q2 → h6[j]? = some Z → H7[j]? = some Z := fun {j Z} hj hz => by rw [hH7, List.getElem?_set_ne (by omega)]; exact hz
  have s7q : H7[q2]? = some (.cells [I D1, I D2] false) := by rw [hH7, List.getElem?_set_self (by omega)]
  have s71 := ne2 (by omega) (fr6.at s5q)
  have s73 := ne2 (by omega) (fr6.at s53)
  have vd7 := vd H7 (ne2 (by omega) (fr6.at s5o))
  have vk7 := vk H7 (ne2 (by omega) (fr6.at s5k))
  have l7 := (List.getElem?_eq_some_iff.1 s73).1
  obtain ⟨H8, hH8⟩ : ∃ H8, H8 = H7.set q3 (.cells [I (C1 + D1), I (C2 + D2)] false) := ⟨_, rfl⟩
  have u1 : H8[q1]? = some (.cells [I C1, I C2] false) := by rw [hH8, List.getElem?_set_ne (by omega)]; exact s71
  have u2 : H8[q2]? = some (.cells [I D1, I D2] false) := by rw [hH8, List.getElem?_set_ne (by omega)]; exact s7q
  have u3 : H8[q3]? = some (.cells [I (C1 + D1), I (C2 + D2)] false) := by rw [hH8, List.getElem?_set_self (by omega)]
  obtain ⟨xv, hxv⟩ : ∃ z, z = slV 1 intL lx := ⟨_, rfl⟩
  obtain ⟨yv, hyv⟩ : ∃ z, z = slV 1 intL ly := ⟨_, rfl⟩
  rw [← hxv] at LX vw4
  rw [← hyv] at LY vw6
  simp only [← hxv] at d4
  simp only [← hyv] at d5
  simp (disch := first | assumption | omega | (simp only [az]; done)) only [ru, eq_self, if_true, if_false, BEq.rfl, binI, AO.row?, splice, fillL, mmAll, loadV, storeV, zeros, Am.rowAt, Am.part, addOff, Nat.reduceAdd, Nat.reduceMul, Nat.reduceLeDiff, Nat.reduceSub, Nat.reduceLT, Int.reduceEq, Int.reduceLT, Int.reduceLE, Int.reduceGT, Int.reduceGE, Int.reduceAdd, Int.reduceSub, Int.reduceMul, Int.reduceNeg, Int.reduceToNat, reduceCtorEq, reduceIte, hlt, vd0, gD, hvd, lenV_sl HD.i, elem_pt HD.i, view_sl HD.i, scalar_sl HD.i, cells_sl HD.i, pure_sl HD.i, Int.toNat_natCast, lenV_sl H.i, elem_pt H.i, view_sl H.i, scalar_sl H.i, cells_sl H.i, pure_sl H.i, Int.toNat_natCast, lenV_sl K.i, elem_pt K.i, view_sl K.i, scalar_sl K.i, cells_sl K.i, pure_sl K.i, Int.toNat_natCast, b1, b2, b3, mm0, gUn, Bool.not_true, Bool.not_false, decide_true, decide_false, bne_self_eq_false, d1]
  simp (disch := first | assumption | omega | (simp only [az]; done)) only [ru, eq_self, if_true, if_false, BEq.rfl, binI, AO.row?, splice, fillL, mmAll, loadV, storeV, zeros, Am.rowAt, Am.part, addOff, Nat.reduceAdd, Nat.reduceMul, Nat.reduceLeDiff, Nat.reduceSub, Nat.reduceLT, Int.reduceEq, Int.reduceLT, Int.reduceLE, Int.reduceGT, Int.reduceGE, Int.reduceAdd, Int.reduceSub, Int.reduceMul, Int.reduceNeg, Int.reduceToNat, reduceCtorEq, reduceIte, lenV_sl H.i, elem_pt H.i, view_sl H.i, scalar_sl H.i, cells_sl H.i, pure_sl H.i, Int.toNat_natCast, lenV_sl K.i, elem_pt K.i, view_sl K.i, scalar_sl K.i, cells_sl K.i, pure_sl K.i, Int.toNat_natCast, ← hq1, at1, st1, ← hH1, d2, ← hq2, at2, st2, ← hH2, vd2, lenV_sl HD.i, elem_pt HD.i, view_sl HD.i, scalar_sl HD.i, cells_sl HD.i, pure_sl HD.i, Int.toNat_natCast, d3, ← hq3, at3, st3, ← hH3, t1, t2, t3, pl1, gUn, Bool.not_true, Bool.not_false, decide_true, decide_false, bne_self_eq_false]
  simp (disch := first | assumption | omega | (simp only [az]; done)) only [ru, eq_self, if_true, if_false, BEq.rfl, binI, AO.row?, splice, fillL, mmAll, loadV, storeV, zeros, Am.rowAt, Am.part, addOff, Nat.reduceAdd, Nat.reduceMul, Nat.reduceLeDiff, Nat.reduceSub, Nat.reduceLT, Int.reduceEq, Int.reduceLT, Int.reduceLE, Int.reduceGT, Int.reduceGE, Int.reduceAdd, Int.reduceSub, Int.reduceMul, Int.reduceNeg, Int.reduceToNat, reduceCtorEq, reduceIte, lenV_sl H.i, elem_pt H.i, view_sl H.i, scalar_sl H.i, cells_sl H.i, pure_sl H.i, Int.toNat_natCast, lenV_sl X, elem_in X, view_sl X, scalar_sl X, cells_sl X, pure_sl X, Int.toNat_natCast, z3, at_ap, m3, E4, vw4, sc4.1, sc4.2.1, lenV_sl LX, elem_in LX, view_sl LX, scalar_sl LX, cells_sl LX, pure_sl LX, Int.toNat_natCast, d4, y1, ← hH5, gUn, Bool.not_true, Bool.not_false, decide_true, decide_false, bne_self_eq_false]
  simp (disch := first | assumption | omega | (simp only [az]; done)) only [ru, eq_self, if_true, if_false, BEq.rfl, binI, AO.row?, splice, fillL, mmAll, loadV, storeV, zeros, Am.rowAt, Am.part, addOff, Nat.reduceAdd, Nat.reduceMul, Nat.reduceLeDiff, Nat.reduceSub, Nat.reduceLT, Int.reduceEq, Int.reduceLT, Int.reduceLE, Int.reduceGT, Int.reduceGE, Int.reduceAdd, Int.reduceSub, Int.reduceMul, Int.reduceNeg, Int.reduceToNat, reduceCtorEq, reduceIte, lenV_sl K.i, elem_pt K.i, view_sl K.i, scalar_sl K.i, cells_sl K.i, pure_sl K.i, Int.toNat_natCast, lenV_sl Y, elem_in Y, view_sl Y, scalar_sl Y, cells_sl Y, pure_sl Y, Int.toNat_natCast, s50, at_ap, m5, E6, vw6, sc6.1, sc6.2.1, lenV_sl LY, elem_in LY, view_sl LY, scalar_sl LY, cells_sl LY, pure_sl LY, Int.toNat_natCast, d5, y2, ← hH7, vd7, vk7, lenV_sl HD.i, elem_pt HD.i, view_sl HD.i, scalar_sl HD.i, cells_sl HD.i, pure_sl HD.i, Int.toNat_natCast, lenV_sl KV, elem_in KV, view_sl KV, scalar_sl KV, cells_sl KV, pure_sl KV, Int.toNat_natCast, d6, s73, ← hH8, u1, u2, u3, pl2, gUn, s18, Bool.not_true, Bool.not_false, decide_true, decide_false, bne_self_eq_false]
end
end Go.Proofs.Ytkmcbiimlnphmaa.S

