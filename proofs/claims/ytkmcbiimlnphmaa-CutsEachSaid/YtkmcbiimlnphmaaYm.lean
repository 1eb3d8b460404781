/-
CutsEach: each truth.
-/
import Derived.Test.YtkmcbiimlnphmaaYl
namespace Go.Proofs.Ytkmcbiimlnphmaa.S
open Go Go.Am Go.Proofs.Ytkmcbiimlnphmaa.T
set_option maxRecDepth 100000
set_option linter.unusedSimpArgs false
set_option linter.unusedVariables false

theorem GO_mapp {X : Cx} {base : Nat} {k : List KF} {ts : List AV} {h : List AO} {mk : List Nat} {r : List AOper} {d : Option Nat} {kp : Bool} {e eb s : Nat} {a x : Opd} {m : List Nat} :
    GO X base (⟨d, .append kp e eb a x, none, some s, m⟩ :: r) k ts h mk = GX X base ((appG kp X.lim (base + s) e eb (hide base m h) (a.ev ts) (x.ev ts)).map fun y => (y.1, unhide base h m y.2)) d r k ts mk := by
  rw [GO_slot]
  congr 1
  show exMask (R X.E) X.lim base (some (base + s)) (Opd.ev ts) h (.append kp e eb a x) m = _
  rw [exMask_eq]; rfl
theorem unhC {b s : Nat} {r : List Nat} {h g : List AO} : unhide b h (s :: r) g = (unhide b h r g).set (b + s) (h.getD (b + s) .tomb) := id rfl
theorem unhN {b : Nat} {h g : List AO} : unhide b h [] g = g := id rfl
section
variable {t : List Pt} {v w : AV} {l : List Int}
set_option maxHeartbeats 8000000 in
theorem s3 (H0 : TbIn t v) (V : IsSl 1 intL l w) {lx ly : List Int} {x y : AV} (X : IsSl 1 intL lx x) (Y : IsSl 1 intL ly y) : Iso E 3 [v, w, .agg [x, y]] false = some (Bo true) := by
  have g0 := fun st => s16 H0 st
  refine Iso_of (es _ _ _ _) e3 ?_
  simp only [f3]
  cases hv : tval t
  case false => simp (disch := first | assumption | omega | (simp only [az]; done)) only [ru, eq_self, if_true, if_false, BEq.rfl, binI, AO.row?, splice, fillL, mmAll, loadV, storeV, zeros, Am.rowAt, Am.part, addOff, Nat.reduceAdd, Nat.reduceMul, Nat.reduceLeDiff, Nat.reduceSub, Nat.reduceLT, Int.reduceEq, Int.reduceLT, Int.reduceLE, Int.reduceGT, Int.reduceGE, Int.reduceAdd, Int.reduceSub, Int.reduceMul, Int.reduceNeg, Int.reduceToNat, reduceCtorEq, reduceIte, lenV_sl H0.i, elem_pt H0.i, view_sl H0.i, scalar_sl H0.i, cells_sl H0.i, pure_sl H0.i, Int.toNat_natCast, lenV_sl V, elem_in V, view_sl V, scalar_sl V, cells_sl V, pure_sl V, Int.toNat_natCast, lenV_sl X, elem_in X, view_sl X, scalar_sl X, cells_sl X, pure_sl X, Int.toNat_natCast, lenV_sl Y, elem_in Y, view_sl Y, scalar_sl Y, cells_sl Y, pure_sl Y, Int.toNat_natCast, g0, hv, gUn, s18, Bool.false_and]
  have T := tval_W hv
  have n8 := T.n
  have n40 : t.length ≤ 40 := by omega
  have H : TbOk t v := ⟨H0.i, by omega⟩
  have g0 : ∀ st, Iso E 16 [v] st = some (Bo true) := fun st => by rw [g0, hv, decide_eq_true n40]; rfl
  by_cases hl : (l.length : Int) > 40
  · simp (disch := first | assumption | omega | (simp only [az]; done)) only [ru, eq_self, if_true, if_false, BEq.rfl, binI, AO.row?, splice, fillL, mmAll, loadV, storeV, zeros, Am.rowAt, Am.part, addOff, Nat.reduceAdd, Nat.reduceMul, Nat.reduceLeDiff, Nat.reduceSub, Nat.reduceLT, Int.reduceEq, Int.reduceLT, Int.reduceLE, Int.reduceGT, Int.reduceGE, Int.reduceAdd, Int.reduceSub, Int.reduceMul, Int.reduceNeg, Int.reduceToNat, reduceCtorEq, reduceIte, lenV_sl H0.i, elem_pt H0.i, view_sl H0.i, scalar_sl H0.i, cells_sl H0.i, pure_sl H0.i, Int.toNat_natCast, lenV_sl V, elem_in V, view_sl V, scalar_sl V, cells_sl V, pure_sl V, Int.toNat_natCast, lenV_sl X, elem_in X, view_sl X, scalar_sl X, cells_sl X, pure_sl X, Int.toNat_natCast, lenV_sl Y, elem_in Y, view_sl Y, scalar_sl Y, cells_sl Y, pure_sl Y, Int.toNat_natCast, g0, hl, gUn, s18, decide_true, Bool.not_true]
  have a1 := fun st => s17 H T V st
  cases ht : truB t l
  · simp (disch := first | assumption | omega | (simp only [az]; done)) only [ru, eq_self, if_true, if_false, BEq.rfl, binI, AO.row?, splice, fillL, mmAll, loadV, storeV, zeros, Am.rowAt, Am.part, addOff, Nat.reduceAdd, Nat.reduceMul, Nat.reduceLeDiff, Nat.reduceSub, Nat.reduceLT, Int.reduceEq, Int.reduceLT, Int.reduceLE, Int.reduceGT, Int.reduceGE, Int.reduceAdd, Int.reduceSub, Int.reduceMul, Int.reduceNeg, Int.reduceToNat, reduceCtorEq, reduceIte, lenV_sl H0.i, elem_pt H0.i, view_sl H0.i, scalar_sl H0.i, cells_sl H0.i, pure_sl H0.i, Int.toNat_natCast, lenV_sl V, elem_in V, view_sl V, scalar_sl V, cells_sl V, pure_sl V, Int.toNat_natCast, lenV_sl X, elem_in X, view_sl X, scalar_sl X, cells_sl X, pure_sl X, Int.toNat_natCast, lenV_sl Y, elem_in Y, view_sl Y, scalar_sl Y, cells_sl Y, pure_sl Y, Int.toNat_natCast, g0, hl, a1, ht, gUn, s18, decide_true, Bool.not_true]
  obtain ⟨ll, tr⟩ := (truB_iff T).1 ht
  have h1 : is1 t = true := (is1_iff T.toTG).2 ⟨_, tr⟩
  have ub : ∀ i, i < t.length → 0 ≤ l.getD i 0 ∧ l.getD i 0 ≤ 30 := fun i hi => (tr.1 i hi).1
  have b4 := fun st => s19 H hv h1 st
  have b6 := fun st => s20 H st
  simp only [askR, hv, if_true, btw, h1] at b6
  have kW := in_ask T h1 tr (r := rW t)
  obtain ⟨x1, hx1⟩ : ∃ x, x = loV t (rW t) := ⟨_, rfl⟩
  obtain ⟨x2, hx2⟩ : ∃ x, x = hiV t (rW t) := ⟨_, rfl⟩
  simp only [← hx1, ← hx2] at b6 kW
  obtain ⟨wt, hwt⟩ : ∃ wt, wt = resS (wts t) := ⟨_, rfl⟩
  have WT : IsSl 2 Spn.e (wts t) wt := by rw [hwt]; exact resS_is _
  rw [← hwt] at b4
  obtain ⟨w1, h1', A1, fr1, R1⟩ := cpyV (eb := 8) (lim := 0) (h := [AO.cells [x, y] false, AO.cells [I x1, I x2] false]) V intE intSc (by omega) (by omega) (Nat.zero_le _)
  simp only [apN, len0, List.cons_append, List.nil_append, List.length_nil, List.length_cons, Nat.zero_add, Nat.reduceAdd] at A1
  have vw1 := R1.view intE intIv (st := false) (k := 7)
  have sc1 := R1.sc
  obtain ⟨lw, hlw⟩ : ∃ lw, lw = slV 1 intL l := ⟨_, rfl⟩
  have LW : IsSl 1 intL l lw := by rw [hlw]; exact slV_is
  rw [← hlw] at vw1
  have b7 := fun st => s21 H LW (by omega) st
  simp only [holR, hv, ht, if_true] at b7
  have i0 : h1'[0]? = some (.cells [x, y] false) := fr1.at rfl
  have i1 : h1'[1]? = some (.cells [I x1, I x2] false) := fr1.at rfl
  simp (disch := first | assumption | omega | (simp only [az]; done)) only [ru, eq_self, if_true, if_false, BEq.rfl, binI, AO.row?, splice, fillL, mmAll, loadV, storeV, zeros, Am.rowAt, Am.part, addOff, Nat.reduceAdd, Nat.reduceMul, Nat.reduceLeDiff, Nat.reduceSub, Nat.reduceLT, Int.reduceEq, Int.reduceLT, Int.reduceLE, Int.reduceGT, Int.reduceGE, Int.reduceAdd, Int.reduceSub, Int.reduceMul, Int.reduceNeg, Int.reduceToNat, reduceCtorEq, reduceIte, lenV_sl H.i, elem_pt H.i, view_sl H.i, scalar_sl H.i, cells_sl H.i, pure_sl H.i, Int.toNat_natCast, lenV_sl V, elem_in V, view_sl V, scalar_sl V, cells_sl V, pure_sl V, Int.toNat_natCast, lenV_sl X, elem_in X, view_sl X, scalar_sl X, cells_sl X, pure_sl X, Int.toNat_natCast, lenV_sl Y, elem_in Y, view_sl Y, scalar_sl Y, cells_sl Y, pure_sl Y, Int.toNat_natCast, lenV_sl WT, view_sl WT, scalar_sl WT, cells_sl WT, pure_sl WT, g0, hl, a1, ht, b4, b6, A1, vw1, sc1.1, sc1.2.1, lenV_sl LW, elem_in LW, view_sl LW, scalar_sl LW, cells_sl LW, pure_sl LW, Int.toNat_natCast, b7, gUn, s18, decide_true, decide_false, Bool.not_true, atE, setE, lenE, Nat.le_refl, bne_self_eq_false]
  refine G_loop_ind (fun m' ts h mk => ∃ i : Nat, i ≤ t.length ∧ m' = t.length - i ∧ ts.length = 197 ∧ ts.getD 0 .undef = v ∧ ts.getD 1 .undef = w ∧ ts.getD 5 .undef = .ptr 0 0 ∧ ts.getD 7 .undef = wt ∧ ts.getD 9 .undef = .ptr 1 0 ∧ ts.getD 13 .undef = I (lin (rW t) (fu l) i) ∧ ts.getD 14 .undef = I i ∧ h[0]? = some (.cells [x, y] false) ∧ h[1]? = some (.cells [I x1, I x2] false) ∧ mk = []) ?_ _ _ _ _ ⟨0, Nat.zero_le _, rfl, rfl, rfl, rfl, rfl, rfl, rfl, rfl, rfl, i0, i1, rfl⟩
  clear i0 i1
  rintro m' ts h mk ih ⟨i, hi, rfl, hl', q0, q1, q5, q7, q9, q13, q14, i0, i1, rfl⟩
  rw [lit_all hl']
  simp only [lit0, litS, Nat.reduceAdd, q0, q1, q5, q7, q9, q13, q14]
  simp (disch := first | assumption | omega | (simp only [az]; done)) only [ru, eq_self, if_true, if_false, BEq.rfl, binI, AO.row?, splice, fillL, mmAll, loadV, storeV, zeros, Am.rowAt, Am.part, addOff, Nat.reduceAdd, Nat.reduceMul, Nat.reduceLeDiff, Nat.reduceSub, Nat.reduceLT, Int.reduceEq, Int.reduceLT, Int.reduceLE, Int.reduceGT, Int.reduceGE, Int.reduceAdd, Int.reduceSub, Int.reduceMul, Int.reduceNeg, Int.reduceToNat, reduceCtorEq, reduceIte, lenV_sl H.i, elem_pt H.i, view_sl H.i, scalar_sl H.i, cells_sl H.i, pure_sl H.i, Int.toNat_natCast]
  by_cases hlt : (i : Int) < t.length
  case pos =>
    have hi' : i < t.length := by omega
    have l1 : (i : Int) < (wts t).length := by rw [wts_len]; exact hlt
    have l2 : (i : Int) < l.length := by omega
    have kA := in_ask T h1 tr (r := rA i)
    have kL := in_ask T h1 tr (r := rL t i)
    rw [lin_rA, if_pos hi'] at kA
    rw [lin_rL T.toTG hi' (Nat.le_refl _), if_pos hi'] at kL
    have ew : (wts t).getD i default = wsp t i := wts_at hi'
    have c1 := fun st => s23 H (i : Int) st
    have c2 := fun st => s24 H (i : Int) st
    have c3 := fun st => s25 H V ll ub hi' st
    simp only [askR, hv, inR_iff.2 (show (0 : Int) ≤ (i : Int) ∧ (i : Int) ≤ t.length - 1 by omega), if_true, Int.toNat_natCast, btw, h1, Bool.true_and] at c1
    have lws := lin_rW_succ (t := t) (u := fu l) hi'
    have lb := lin_small (r := rW t) (u := fu l) (n := t.length) (fun i hi => rW_b i (by omega)) ub (k := i) hi
    have ubi := ub i hi'
    have ew1 : ((wts t).getD i default).lo = loV t (rA i) := by rw [ew]; rfl
    have ew2 : ((wts t).getD i default).hi = hiV t (rA i) := by rw [ew]; rfl
    rw [← ew1, ← ew2] at kA
    obtain ⟨z, hz⟩ : ∃ z, z = l.getD i 0 := ⟨_, rfl⟩
    simp only [fu, ← hz] at kA kL lws ubi c3
    obtain ⟨P, hP⟩ : ∃ P, P = z - pcs t (fun i => l.getD i 0) i t.length := ⟨_, rfl⟩
    simp only [← hP] at kL c3
    obtain ⟨S, hS⟩ : ∃ S, S = lin (rW t) (fun i => l.getD i 0) i := ⟨_, rfl⟩
    have hS' : lin (rW t) (fu l) i = S := hS.symm
    rw [← hS] at lws
    rw [hS'] at lb ⊢
    obtain ⟨X1, hX1⟩ : ∃ X1, X1 = loV t (rL t i) := ⟨_, rfl⟩
    obtain ⟨X2, hX2⟩ : ∃ X2, X2 = hiV t (rL t i) := ⟨_, rfl⟩
    simp only [← hX1, ← hX2] at c1 kL
    obtain ⟨p, hp⟩ : ∃ p, p = t.getD i default := ⟨_, rfl⟩
    rw [← hp] at lws
    have j0 : ∀ Z : AO, (h ++ [Z])[0]? = some (.cells [x, y] false) := fun Z => Fr.at (Fr.app _ _) i0
    have j1 : ∀ Z : AO, (h ++ [Z])[1]? = some (.cells [I x1, I x2] false) := fun Z => Fr.at (Fr.app _ _) i1
    cases hc : canC t i
    all_goals
      rw [hc] at c1 c2
      simp only [Bool.false_eq_true, if_false, if_true, erR] at c1
      by_cases ho : p.of = -1
      · rw [if_pos ho] at lws
        simp (disch := first | assumption | omega | (simp only [az]; done)) only [ru, eq_self, if_true, if_false, BEq.rfl, binI, AO.row?, splice, fillL, mmAll, loadV, storeV, zeros, Am.rowAt, Am.part, addOff, Nat.reduceAdd, Nat.reduceMul, Nat.reduceLeDiff, Nat.reduceSub, Nat.reduceLT, Int.reduceEq, Int.reduceLT, Int.reduceLE, Int.reduceGT, Int.reduceGE, Int.reduceAdd, Int.reduceSub, Int.reduceMul, Int.reduceNeg, Int.reduceToNat, reduceCtorEq, reduceIte, lenV_sl H.i, elem_pt H.i, view_sl H.i, scalar_sl H.i, cells_sl H.i, pure_sl H.i, Int.toNat_natCast, lenV_sl V, elem_in V, view_sl V, scalar_sl V, cells_sl V, pure_sl V, Int.toNat_natCast, lenV_sl WT, view_sl WT, scalar_sl WT, cells_sl WT, pure_sl WT, elem_sp WT, hlt, l1, l2, ← hp, ← hz, s22, kA, ho, c1, c2, c3, kL, j0, gUn, decide_true, decide_false, Bool.not_true, atE, setE, lenE, Nat.le_refl, bne_self_eq_false]
        exact ih (t.length - (i + 1)) _ _ _ (by omega) ⟨i + 1, by omega, rfl, rfl, rfl, rfl, rfl, rfl, rfl, by show _ = I (lin (rW t) (fun i => l.getD i 0) (i + 1)); rw [lws]; rfl, rfl, j0 _, j1 _, rfl⟩
      · rw [if_neg ho, Int.add_zero] at lws
        simp (disch := first | assumption | omega | (simp only [az]; done)) only [ru, eq_self, if_true, if_false, BEq.rfl, binI, AO.row?, splice, fillL, mmAll, loadV, storeV, zeros, Am.rowAt, Am.part, addOff, Nat.reduceAdd, Nat.reduceMul, Nat.reduceLeDiff, Nat.reduceSub, Nat.reduceLT, Int.reduceEq, Int.reduceLT, Int.reduceLE, Int.reduceGT, Int.reduceGE, Int.reduceAdd, Int.reduceSub, Int.reduceMul, Int.reduceNeg, Int.reduceToNat, reduceCtorEq, reduceIte, lenV_sl H.i, elem_pt H.i, view_sl H.i, scalar_sl H.i, cells_sl H.i, pure_sl H.i, Int.toNat_natCast, lenV_sl V, elem_in V, view_sl V, scalar_sl V, cells_sl V, pure_sl V, Int.toNat_natCast, lenV_sl WT, view_sl WT, scalar_sl WT, cells_sl WT, pure_sl WT, elem_sp WT, hlt, l1, l2, ← hp, ← hz, s22, kA, ho, c1, c2, c3, kL, j0, gUn, decide_true, decide_false, Bool.not_true, atE, setE, lenE, Nat.le_refl, bne_self_eq_false]
        exact ih (t.length - (i + 1)) _ _ _ (by omega) ⟨i + 1, by omega, rfl, rfl, rfl, rfl, rfl, rfl, rfl, by show _ = I (lin (rW t) (fun i => l.getD i 0) (i + 1)); rw [lws]; rfl, rfl, j0 _, j1 _, rfl⟩
  obtain rfl : i = t.length := by omega
  have d1 := fun st => s26 H T.toTG X Y st
  have n0 := (List.getElem?_eq_some_iff.1 i0).1
  obtain ⟨S, hS⟩ : ∃ S, S = lin (rW t) (fu l) t.length := ⟨_, rfl⟩
  rw [← hS] at kW ⊢
  cases hd : (decide (lx.length ≤ 40) && decide (ly.length ≤ 40) && cutB t lx && cutB t ly)
  · rw [hd] at d1
    simp (disch := first | assumption | omega | (simp only [az]; done)) only [ru, eq_self, if_true, if_false, BEq.rfl, binI, AO.row?, splice, fillL, mmAll, loadV, storeV, zeros, Am.rowAt, Am.part, addOff, Nat.reduceAdd, Nat.reduceMul, Nat.reduceLeDiff, Nat.reduceSub, Nat.reduceLT, Int.reduceEq, Int.reduceLT, Int.reduceLE, Int.reduceGT, Int.reduceGE, Int.reduceAdd, Int.reduceSub, Int.reduceMul, Int.reduceNeg, Int.reduceToNat, reduceCtorEq, reduceIte, lenV_sl H.i, elem_pt H.i, view_sl H.i, scalar_sl H.i, cells_sl H.i, pure_sl H.i, Int.toNat_natCast, lenV_sl X, elem_in X, view_sl X, scalar_sl X, cells_sl X, pure_sl X, Int.toNat_natCast, lenV_sl Y, elem_in Y, view_sl Y, scalar_sl Y, cells_sl Y, pure_sl Y, Int.toNat_natCast, hlt, i0, i1, s22, kW, d1, gUn, s18, decide_true, decide_false, Bool.not_true, Bool.not_false]
  rw [hd] at d1
  simp only [Bool.and_eq_true, decide_eq_true_eq] at hd
  obtain ⟨⟨⟨e1, e2⟩, e3⟩, e4⟩ := hd
  have kP := in_ask T h1 tr (r := rS t lx)
  have kR := rnk_ok T h1 tr (l := lx) (m := ly)
  have LX := slV_is (esz := 1) (enc := intL) (l := lx)
  have LY := slV_is (esz := 1) (enc := intL) (l := ly)
  have c1 := fun st => s27 H LX (by omega) st
  have c2 := fun st => s28 H LX (by omega) LY (by omega) st
  have c3 := fun st => s29 H T X (by omega) V ll ub st
  have c4 := fun st => s29 H T Y (by omega) V ll ub st
  simp only [askR, rnkR, hv, e3, e4, if_true, btw, h1, Bool.and_true] at c1 c2
  obtain ⟨X1, hX1⟩ : ∃ X1, X1 = loV t (rS t lx) := ⟨_, rfl⟩
  obtain ⟨X2, hX2⟩ : ∃ X2, X2 = hiV t (rS t lx) := ⟨_, rfl⟩
  simp only [← hX1, ← hX2] at c1 kP
  obtain ⟨p1, hp1⟩ : ∃ p1, p1 = lin (rS t lx) (fu l) t.length := ⟨_, rfl⟩
  obtain ⟨p2, hp2⟩ : ∃ p2, p2 = lin (rS t ly) (fu l) t.length := ⟨_, rfl⟩
  simp only [← hp1, ← hp2] at kP kR c3 c4
  obtain ⟨k, hk⟩ : ∃ k, k = rnk t lx ly := ⟨_, rfl⟩
  simp only [← hk] at kR c2
  obtain ⟨lw1, hlw1⟩ : ∃ lw, lw = slV 1 intL lx := ⟨_, rfl⟩
  obtain ⟨lw2, hlw2⟩ : ∃ lw, lw = slV 1 intL ly := ⟨_, rfl⟩
  obtain ⟨w3, h3, A3, fr3, R3⟩ := cpyV (eb := 8) (lim := 0) (h := h) X intE intSc (by omega) (by omega) (Nat.zero_le _)
  have vw3 := R3.view intE intIv (st := false) (k := 7)
  have sc3 := R3.sc
  obtain ⟨o, ho⟩ : ∃ o, o = h3.length := ⟨_, rfl⟩
  obtain ⟨H4, hH4⟩ : ∃ H4, H4 = h3 ++ [AO.cells [I X1, I X2] false] := ⟨_, rfl⟩
  have atO : ∀ X : AO, (h3 ++ [X])[o]? = some X := fun X => by rw [ho]; exact atE
  have stO : ∀ X Y : AO, (h3 ++ [X]).set o Y = h3 ++ [Y] := fun X Y => by rw [ho]; exact setE
  have k0 : H4[0]? = some (.cells [x, y] false) := by rw [hH4]; exact Fr.at (Fr.app _ _) (fr3.at i0)
  have ko : H4[o]? = some (.cells [I X1, I X2] false) := by rw [hH4]; exact atO _
  have m0 := (List.getElem?_eq_some_iff.1 k0).1
  have mo := (List.getElem?_eq_some_iff.1 ko).1
  obtain ⟨w5, y0, y1, A5, R5⟩ := cpyG (eb := 8) (lim := 0) (J := [.tomb, .tomb]) (h := H4) X intE intSc (by omega) (by omega) (Nat.zero_le _)
  obtain ⟨w6, y2, y3, A6, R6⟩ := cpyG (eb := 8) (lim := 0) (J := []) (h := H4 ++ [y0, y1]) Y intE intSc (by omega) (by omega) (Nat.zero_le _)
  have A6' : appG true 0 (H4.length + 3) 1 8 (H4 ++ [y0, y1, .cells [] false, .tomb]) (.ms 1 (H4.length + 2) 0 0) y = some (w6, H4 ++ [y0, y1, y2, y3]) := by
    simpa only [List.append_assoc, List.cons_append, List.nil_append, List.length_append, List.length_cons, List.length_nil, Nat.zero_add, Nat.reduceAdd, Nat.add_assoc] using A6
  have R5' := R5 [y2, y3]
  have R6' := R6 []
  simp only [List.append_assoc, List.cons_append, List.nil_append] at R6'
  have vw5 := R5'.view intE intIv (st := false) (k := 7)
  have vw6 := R6'.view intE intIv (st := false) (k := 7)
  have sc5 := R5'.sc
  have sc6 := R6'.sc
  have q0 : (H4 ++ [y0, y1, y2, y3])[0]? = some (.cells [x, y] false) := by rw [at_ap m0]; exact k0
  have qo : (H4 ++ [y0, y1, y2, y3])[o]? = some (.cells [I X1, I X2] false) := by rw [at_ap mo]; exact ko
  rw [← hlw1] at LX vw3 vw5
  rw [← hlw2] at LY vw6
  simp only [← hlw1, ← hlw2] at c1 c2
  have i1' : inR 1 1 3 = true := rfl
  have i2' : inR 2 1 3 = true := rfl
  have i3' : inR 3 1 3 = true := rfl
  rcases kR with ⟨rfl, g⟩ | ⟨rfl, g⟩ | rfl
  · simp (disch := first | assumption | omega | (simp only [az]; done)) only [ru, eq_self, if_true, if_false, BEq.rfl, binI, AO.row?, splice, fillL, mmAll, loadV, storeV, zeros, Am.rowAt, Am.part, addOff, Nat.reduceAdd, Nat.reduceMul, Nat.reduceLeDiff, Nat.reduceSub, Nat.reduceLT, Int.reduceEq, Int.reduceLT, Int.reduceLE, Int.reduceGT, Int.reduceGE, Int.reduceAdd, Int.reduceSub, Int.reduceMul, Int.reduceNeg, Int.reduceToNat, reduceCtorEq, reduceIte, lenV_sl H.i, elem_pt H.i, view_sl H.i, scalar_sl H.i, cells_sl H.i, pure_sl H.i, Int.toNat_natCast, lenV_sl X, elem_in X, view_sl X, scalar_sl X, cells_sl X, pure_sl X, Int.toNat_natCast, lenV_sl Y, elem_in Y, view_sl Y, scalar_sl Y, cells_sl Y, pure_sl Y, Int.toNat_natCast, lenV_sl V, elem_in V, view_sl V, scalar_sl V, cells_sl V, pure_sl V, Int.toNat_natCast, lenV_sl LX, elem_in LX, view_sl LX, scalar_sl LX, cells_sl LX, pure_sl LX, Int.toNat_natCast, lenV_sl LY, elem_in LY, view_sl LY, scalar_sl LY, cells_sl LY, pure_sl LY, Int.toNat_natCast, hlt, i0, i1, s22, kW, d1, A3, vw3, sc3.1, sc3.2.1, c1, ← ho, atO, stO, ← hH4, k0, m0, at_ap, GO_mapp, unhN, unhC, setT, setT0, getT, getT0, atT, atT0, A5, A6', vw5, vw6, sc5.1, sc5.2.1, sc6.1, sc6.2.1, c2, q0, qo, c3, c4, kP, s30, i1', g, gUn, s18, decide_true, decide_false, Bool.not_true, Bool.not_false]
  · simp (disch := first | assumption | omega | (simp only [az]; done)) only [ru, eq_self, if_true, if_false, BEq.rfl, binI, AO.row?, splice, fillL, mmAll, loadV, storeV, zeros, Am.rowAt, Am.part, addOff, Nat.reduceAdd, Nat.reduceMul, Nat.reduceLeDiff, Nat.reduceSub, Nat.reduceLT, Int.reduceEq, Int.reduceLT, Int.reduceLE, Int.reduceGT, Int.reduceGE, Int.reduceAdd, Int.reduceSub, Int.reduceMul, Int.reduceNeg, Int.reduceToNat, reduceCtorEq, reduceIte, lenV_sl H.i, elem_pt H.i, view_sl H.i, scalar_sl H.i, cells_sl H.i, pure_sl H.i, Int.toNat_natCast, lenV_sl X, elem_in X, view_sl X, scalar_sl X, cells_sl X, pure_sl X, Int.toNat_natCast, lenV_sl Y, elem_in Y, view_sl Y, scalar_sl Y, cells_sl Y, pure_sl Y, Int.toNat_natCast, lenV_sl V, elem_in V, view_sl V, scalar_sl V, cells_sl V, pure_sl V, Int.toNat_natCast, lenV_sl LX, elem_in LX, view_sl LX, scalar_sl LX, cells_sl LX, pure_sl LX, Int.toNat_natCast, lenV_sl LY, elem_in LY, view_sl LY, scalar_sl LY, cells_sl LY, pure_sl LY, Int.toNat_natCast, hlt, i0, i1, s22, kW, d1, A3, vw3, sc3.1, sc3.2.1, c1, ← ho, atO, stO, ← hH4, k0, m0, at_ap, GO_mapp, unhN, unhC, setT, setT0, getT, getT0, atT, atT0, A5, A6', vw5, vw6, sc5.1, sc5.2.1, sc6.1, sc6.2.1, c2, q0, qo, c3, c4, kP, s30, i2', g, gUn, s18, decide_true, decide_false, Bool.not_true, Bool.not_false]
  · simp (disch := first | assumption | omega | (simp only [az]; done)) only [ru, eq_self, if_true, if_false, BEq.rfl, binI, AO.row?, splice, fillL, mmAll, loadV, storeV, zeros, Am.rowAt, Am.part, addOff, Nat.reduceAdd, Nat.reduceMul, Nat.reduceLeDiff, Nat.reduceSub, Nat.reduceLT, Int.reduceEq, Int.reduceLT, Int.reduceLE, Int.reduceGT, Int.reduceGE, Int.reduceAdd, Int.reduceSub, Int.reduceMul, Int.reduceNeg, Int.reduceToNat, reduceCtorEq, reduceIte, lenV_sl H.i, elem_pt H.i, view_sl H.i, scalar_sl H.i, cells_sl H.i, pure_sl H.i, Int.toNat_natCast, lenV_sl X, elem_in X, view_sl X, scalar_sl X, cells_sl X, pure_sl X, Int.toNat_natCast, lenV_sl Y, elem_in Y, view_sl Y, scalar_sl Y, cells_sl Y, pure_sl Y, Int.toNat_natCast, lenV_sl V, elem_in V, view_sl V, scalar_sl V, cells_sl V, pure_sl V, Int.toNat_natCast, lenV_sl LX, elem_in LX, view_sl LX, scalar_sl LX, cells_sl LX, pure_sl LX, Int.toNat_natCast, lenV_sl LY, elem_in LY, view_sl LY, scalar_sl LY, cells_sl LY, pure_sl LY, Int.toNat_natCast, hlt, i0, i1, s22, kW, d1, A3, vw3, sc3.1, sc3.2.1, c1, ← ho, atO, stO, ← hH4, k0, m0, at_ap, GO_mapp, unhN, unhC, setT, setT0, getT, getT0, atT, atT0, A5, A6', vw5, vw6, sc5.1, sc5.2.1, sc6.1, sc6.2.1, c2, q0, qo, c3, c4, kP, s30, i3', gUn, s18, decide_true, decide_false, Bool.not_true, Bool.not_false]
end
end Go.Proofs.Ytkmcbiimlnphmaa.S
