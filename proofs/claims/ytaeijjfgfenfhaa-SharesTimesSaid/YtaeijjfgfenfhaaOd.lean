/-
The law of all weights so many times.
-/
import Derived.Test.YtaeijjfgfenfhaaOe
namespace Go.Proofs.Ytaeijjfgfenfhaa.S
open Go Go.Am Go.Proofs.Ytaeijjfgfenfhaa.T
set_option maxRecDepth 100000
set_option linter.unusedSimpArgs false
set_option linter.unusedVariables false

theorem exR2_ok {C : List Nd} (H : CuOk C) {j : Nat} (hj : j < C.length) : exE C j = 0 ∧ exR2 C j = red (exA C j).1 (exA C j).2 := by
  have h : exE C j = 0 := by unfold exE; rw [fit_val H, if_pos (inR_iff.2 (by omega))]
  exact ⟨h, by unfold exR2; rw [if_pos h, Int.toNat_natCast]⟩
theorem tm_e (m : Tm) : AV.agg [I m.t, I m.n, I m.p] = .agg m.e := rfl
section
variable {C : List Nd} {v : AV} (hv : IsSl 3 Nd.e C v)
include hv
theorem x31t (H : CuOk C) {j : Nat} (hj : j < C.length) (st : Bool) : Iso E 31 [cuV v, I j] st = some (.tup [I (frN 399 fun p => decide (gG C p j > gG C (p + 1) j)), I (frE 399 fun p => decide (gG C p j > gG C (p + 1) j))]) := by
  have h := t31 hv (by have := H.n8; omega) (j : Int) st
  have hi : inR (j : Int) 0 (C.length - 1) = true := inR_iff.2 (by omega)
  rw [hi, fit_val H, if_pos rfl, ansN, if_pos rfl, Int.toNat_natCast] at h
  exact h
set_option maxHeartbeats 4000000 in
theorem l12 (m : Tm) (st : Bool) : Iso E 12 [cuV v, .agg [I m.t, I m.n, I m.p]] st = some (Bo true) := by
  obtain ⟨mt, mn, mp⟩ := m
  dsimp only
  refine Iso_of (es _ _ _ _) e12 ?_
  simp only [f12]
  cases hr : rdy C
  · simp (disch := first | assumption | omega | (simp only [az]; done)) only [ru, eq_self, if_true, if_false, BEq.rfl, binI, AO.row?, splice, fillL, mmAll, loadV, storeV, zeros, Am.rowAt, Am.part, addOff, Nat.reduceAdd, Nat.reduceMul, Nat.reduceLeDiff, Nat.reduceSub, Nat.reduceLT, Int.reduceEq, Int.reduceLT, Int.reduceLE, Int.reduceGT, Int.reduceGE, Int.reduceAdd, Int.reduceSub, Int.reduceMul, Int.reduceNeg, Int.reduceToNat, reduceCtorEq, reduceIte, lenV_sl hv, view_sl hv, scalar_sl hv, cells_sl hv, pure_sl hv, t45r hv, hr, Bool.not_false, gUn, t17]
  obtain ⟨H, hl⟩ := rdy_ok hr
  cases ht : inR mt 1 9
  · simp (disch := first | assumption | omega | (simp only [az]; done)) only [ru, eq_self, if_true, if_false, BEq.rfl, binI, AO.row?, splice, fillL, mmAll, loadV, storeV, zeros, Am.rowAt, Am.part, addOff, Nat.reduceAdd, Nat.reduceMul, Nat.reduceLeDiff, Nat.reduceSub, Nat.reduceLT, Int.reduceEq, Int.reduceLT, Int.reduceLE, Int.reduceGT, Int.reduceGE, Int.reduceAdd, Int.reduceSub, Int.reduceMul, Int.reduceNeg, Int.reduceToNat, reduceCtorEq, reduceIte, lenV_sl hv, view_sl hv, scalar_sl hv, cells_sl hv, pure_sl hv, t45r hv, hr, Bool.not_true, Bool.not_false, gUn, s57, ht, t17]
  cases hn : inR mn 0 (C.length - 1)
  · simp (disch := first | assumption | omega | (simp only [az]; done)) only [ru, eq_self, if_true, if_false, BEq.rfl, binI, AO.row?, splice, fillL, mmAll, loadV, storeV, zeros, Am.rowAt, Am.part, addOff, Nat.reduceAdd, Nat.reduceMul, Nat.reduceLeDiff, Nat.reduceSub, Nat.reduceLT, Int.reduceEq, Int.reduceLT, Int.reduceLE, Int.reduceGT, Int.reduceGE, Int.reduceAdd, Int.reduceSub, Int.reduceMul, Int.reduceNeg, Int.reduceToNat, reduceCtorEq, reduceIte, lenV_sl hv, view_sl hv, scalar_sl hv, cells_sl hv, pure_sl hv, t45r hv, hr, Bool.not_true, Bool.not_false, gUn, s57, ht, t49 hv hl, hn, t17]
  cases hp : inR mp 0 400
  · simp (disch := first | assumption | omega | (simp only [az]; done)) only [ru, eq_self, if_true, if_false, BEq.rfl, binI, AO.row?, splice, fillL, mmAll, loadV, storeV, zeros, Am.rowAt, Am.part, addOff, Nat.reduceAdd, Nat.reduceMul, Nat.reduceLeDiff, Nat.reduceSub, Nat.reduceLT, Int.reduceEq, Int.reduceLT, Int.reduceLE, Int.reduceGT, Int.reduceGE, Int.reduceAdd, Int.reduceSub, Int.reduceMul, Int.reduceNeg, Int.reduceToNat, reduceCtorEq, reduceIte, lenV_sl hv, view_sl hv, scalar_sl hv, cells_sl hv, pure_sl hv, t45r hv, hr, Bool.not_true, Bool.not_false, gUn, s57, ht, t49 hv hl, hn, t46, hp, t17]
  have ht' := inR_iff.1 ht
  have hn' := inR_iff.1 hn
  have hp' := inR_iff.1 hp
  have n8 := H.n8
  obtain ⟨j, rfl⟩ : ∃ j : Nat, mn = j := ⟨mn.toNat, by omega⟩
  obtain ⟨o, J, hc, ho⟩ := r18 hv hl [AO.cells [v] false, .cells [I mt, I j, I mp] false]
  have hJ : J[o]? = some (.cells (C.flatMap Nd.e) false) := by simpa using ho
  have ol := (List.getElem?_eq_some_iff.1 hJ).1
  obtain ⟨a, ha⟩ : ∃ a, a = J.length + 1 + 1 := ⟨_, rfl⟩
  have ha1 : J.length + 2 = a := by omega
  simp (disch := first | assumption | omega | (simp only [az]; done)) only [ru, eq_self, if_true, if_false, BEq.rfl, binI, AO.row?, splice, fillL, mmAll, loadV, storeV, zeros, Am.rowAt, Am.part, addOff, Nat.reduceAdd, Nat.reduceMul, Nat.reduceLeDiff, Nat.reduceSub, Nat.reduceLT, Int.reduceEq, Int.reduceLT, Int.reduceLE, Int.reduceGT, Int.reduceGE, Int.reduceAdd, Int.reduceSub, Int.reduceMul, Int.reduceNeg, Int.reduceToNat, reduceCtorEq, reduceIte, lenV_sl hv, view_sl hv, scalar_sl hv, cells_sl hv, pure_sl hv, t45r hv, hr, Bool.not_true, Bool.not_false, gUn, s57, ht, t49 hv hl, hn, t46, hp, exOp_call2, List.length_cons, List.length_nil, hc, lenE, setE, atE, atT0, setT0, atT, setT]
  refine G_loop_ind (fun y ts hk mk => ∃ m : Nat, m ≤ C.length ∧ y = C.length - m ∧ hk[0]? = some (.cells [v] false) ∧ hk[1]? = some (.cells [I mt, I j, I mp] false) ∧ hk[a]? = some (.cells [.ms 3 (o + 2) 0 C.length] false) ∧ hk[o + 2]? = some (.cells ((mulTo C mt m).flatMap Nd.e) false) ∧ ts.length = 178 ∧ ts.getD 2 .undef = .ptr 0 0 ∧ ts.getD 3 .undef = .ptr 1 0 ∧ ts.getD 5 .undef = .ptr a 0 ∧ ts.getD 6 .undef = I m ∧ mk = []) ?_ C.length _ _ _ ⟨0, Nat.zero_le _, rfl, rfl, rfl, by rw [ha]; simp, by simpa [mulTo] using at_up hJ, rfl, rfl, rfl, by rw [ha]; rfl, rfl, rfl⟩
  rintro y ts hk mk ih ⟨m, hm, rfl, c0, c1, ca, co, hl', q2, q3, q5, q6, rfl⟩
  rw [lit_all hl']
  simp only [lit0, litS, Nat.reduceAdd, q2, q3, q5, q6]
  by_cases hlt : (m : Int) < C.length
  · have hm' : m < C.length := by omega
    have lD := mul_len (C := C) (k := mt) m
    obtain ⟨D, hD⟩ : ∃ D, D = mulTo C mt m := ⟨_, rfl⟩
    rw [← hD] at co lD
    have hmD : m < D.length := by omega
    have am : ndA D m = ndA C m := by rw [hD, mul_at m hm, if_neg (by omega)]
    have hw := H.w m hm'
    have hw0 : 0 ≤ (ndA D m).w * mt := by rw [am]; exact Int.mul_nonneg hw.1 (by omega)
    have hw9 : (ndA D m).w * mt ≤ 9 * 9 := by rw [am]; exact Int.mul_le_mul hw.2 ht'.2 (by omega) (by omega)
    have ew := wr64 (n := (ndA D m).w * mt) (by omega) (by omega)
    have fl : m * 3 + 3 ≤ (D.flatMap Nd.e).length := by rw [flat_len Nd.el]; omega
    have el : elemAt 3 (.ms 3 (o + 2) 0 C.length) (I m) = some (.ptr (o + 2) (m * 3)) := by simp [elemAt, hlt]
    have col := (List.getElem?_eq_some_iff.1 co).1
    have cal := (List.getElem?_eq_some_iff.1 ca).1
    have k0 : ∀ X : List AO, (hk ++ X)[0]? = some (.cells [v] false) := fun X => at_up c0
    have k1 : ∀ X : List AO, (hk ++ X)[1]? = some (.cells [I mt, I j, I mp] false) := fun X => at_up c1
    have ka : ∀ X : List AO, (hk ++ X)[a]? = some (.cells [.ms 3 (o + 2) 0 C.length] false) := fun X => at_up ca
    have kc : ∀ X : List AO, (hk ++ X)[o + 2]? = some (.cells (D.flatMap Nd.e) false) := fun X => at_up co
    have s5 : ∀ (X : List AO) (c : AO), (hk ++ X).set (o + 2) c = hk.set (o + 2) c ++ X := fun X c => List.set_append_left _ _ col
    have gt := nd_get hmD
    have pp := nd_put3 (w := (ndA D m).w * mt) hmD
    have nx : mulTo C mt (m + 1) = wth D m ((ndA D m).w * mt) := by rw [mulTo, ← hD]
    have ao : o + 2 ≠ a := by omega
    simp (disch := first | assumption | omega | (simp only [az]; done)) only [ru, eq_self, if_true, if_false, BEq.rfl, binI, AO.row?, splice, fillL, mmAll, loadV, storeV, zeros, Am.rowAt, Am.part, addOff, Nat.reduceAdd, Nat.reduceMul, Nat.reduceLeDiff, Nat.reduceSub, Nat.reduceLT, Int.reduceEq, Int.reduceLT, Int.reduceLE, Int.reduceGT, Int.reduceGE, Int.reduceAdd, Int.reduceSub, Int.reduceMul, Int.reduceNeg, Int.reduceToNat, reduceCtorEq, reduceIte, hlt, lenV_sl hv, view_sl hv, scalar_sl hv, cells_sl hv, pure_sl hv, c0, c1, ca, co, el, k0, k1, ka, kc, s5, gt, fl, lenE, setE, atE, atT0, setT0, atT, setT, ew, pp]
    exact ih (C.length - (m + 1)) _ _ _ (by omega) ⟨m + 1, by omega, rfl, at_up (set_oth c0 (by omega)), at_up (set_oth c1 (by omega)), at_up (set_oth ca ao), by rw [nx]; exact at_up (set_own co), rfl, rfl, rfl, rfl, rfl, rfl⟩
  · obtain rfl : m = C.length := by omega
    clear ih
    obtain ⟨D, hD⟩ : ∃ D, D = mulTo C mt C.length := ⟨_, rfl⟩
    have lD : D.length = C.length := by rw [hD]; exact mul_len _
    have M : MuOk C D mt := ⟨ht'.1, lD, fun i hi => by rw [hD, mul_at _ (Nat.le_refl _), if_pos hi]⟩
    rw [← hD] at co
    have V : IsSl 3 Nd.e D (slV 3 Nd.e D) := slV_is
    have hout : OutE Nd.e 3 0 hk (.ms 3 (o + 2) 0 C.length) D := .inr ⟨fun e => by rw [e] at lD; have := H.n1; simp at lD; omega, o + 2, Nat.zero_le _, by rw [lD], co⟩
    have vw : ∀ st n, Am.view st hk (n + 1) (.ms 3 (o + 2) 0 C.length) = some (slV 3 Nd.e D) := fun st n => by
      have := RdC.view (enc := Nd.e) (l := D) (h := hk) (w := .ms 3 (o + 2) 0 D.length) ⟨o + 2, rfl, co⟩ Nd.el Nd.iv (st := st) (k := n)
      rw [lD] at this; exact this
    obtain ⟨W, hW⟩ : ∃ W, W = slV 3 Nd.e D := ⟨_, rfl⟩
    rw [← hW] at V vw
    cases hr2 : rdy D
    · simp (disch := first | assumption | omega | (simp only [az]; done)) only [ru, eq_self, if_true, if_false, BEq.rfl, binI, AO.row?, splice, fillL, mmAll, loadV, storeV, zeros, Am.rowAt, Am.part, addOff, Nat.reduceAdd, Nat.reduceMul, Nat.reduceLeDiff, Nat.reduceSub, Nat.reduceLT, Int.reduceEq, Int.reduceLT, Int.reduceLE, Int.reduceGT, Int.reduceGE, Int.reduceAdd, Int.reduceSub, Int.reduceMul, Int.reduceNeg, Int.reduceToNat, reduceCtorEq, reduceIte, hlt, lenV_sl hv, view_sl hv, scalar_sl hv, cells_sl hv, pure_sl hv, c0, c1, ca, view_agg, vw, t45r V, hr2, Bool.not_false, t17]
    obtain ⟨H', hl2⟩ := rdy_ok hr2
    have hj : j < C.length := by omega
    have hj2 : j < D.length := by omega
    have eg := fun (p : Int) => mu_gG M H H' (p := p) j hj
    have eL : gL D mp = gL C mp := by unfold gL; rw [lD]; exact List.map_congr_left fun x hx => mu_gG M H H' x (List.mem_range.1 hx)
    have g1 : Ro E 47 [cuV v, I mp] hk = _ := s47 hv H (h := hk) (pure_sl hv) (fun m k => view_sl hv _ _) (lenV_sl hv) hp'.1 hp'.2
    have vm : ∀ m k, Am.view false (hk ++ m) (k + 1) (.ms 3 (o + 2) 0 C.length) = some W := fun m k => by
      have := RdC.view (enc := Nd.e) (l := D) (h := hk ++ m) (w := .ms 3 (o + 2) 0 D.length) ⟨o + 2, rfl, at_up co⟩ Nd.el Nd.iv (st := false) (k := k)
      rw [lD] at this; rw [hW]; exact this
    have g2 : Ro E 47 [cuV (.ms 3 (o + 2) 0 C.length), I mp] hk = _ := s47 V H' (h := hk) rfl vm (by rw [lD]; rfl) hp'.1 hp'.2
    rw [eL] at g2
    have rl := resL_is (gL C mp)
    have gl : (gL C mp).length ≤ 100000 := by rw [gL_len]; omega
    obtain ⟨w, hw⟩ : ∃ w, w = resL (gL C mp) := ⟨_, rfl⟩
    rw [← hw] at g1 g2 rl
    have b27 := fun st => t27' rl rl gl st
    have f1 := fun st => x29r hv H hj hp st
    have f2 := fun st => x29r V H' hj2 hp st
    have s1 := fun st => x31t hv H hj st
    have s2 := fun st => x31t V H' hj2 st
    simp only [eg] at f2 s2
    have d1 := fun st => t33 hv hl (j : Int) st
    have d2 := fun st => t33 V hl2 (j : Int) st
    rw [(exR2_ok H hj).1, (exR2_ok H hj).2] at d1
    rw [(exR2_ok H' hj2).1, (exR2_ok H' hj2).2, mu_red M H H' hj] at d2
    obtain ⟨⟨r1, r2⟩, hrr⟩ : ∃ r, r = red (exA C j).1 (exA C j).2 := ⟨_, rfl⟩
    rw [← hrr] at d1 d2
    obtain ⟨x1, hx1⟩ : ∃ x : Int, x = frN 400 fun p => decide (gG C p j ≥ mp) := ⟨_, rfl⟩
    obtain ⟨x2, hx2⟩ : ∃ x : Int, x = frE 400 fun p => decide (gG C p j ≥ mp) := ⟨_, rfl⟩
    obtain ⟨x3, hx3⟩ : ∃ x : Int, x = frN 399 fun p => decide (gG C p j > gG C (p + 1) j) := ⟨_, rfl⟩
    obtain ⟨x4, hx4⟩ : ∃ x : Int, x = frE 399 fun p => decide (gG C p j > gG C (p + 1) j) := ⟨_, rfl⟩
    rw [← hx1, ← hx2] at f1 f2
    rw [← hx3, ← hx4] at s1 s2
    have ne : ∀ x : Int, (x == x) = true := fun x => by simp
    have eq : ∀ a b : Int, eqCells [true, true] [I a, I b] [I a, I b] = some true := fun a b => by simp [eqCells]
    clear hx1 hx2 hx3 hx4 hrr hw eL eg hW hout gl co
    have k0 : ∀ X : List AO, (hk ++ X)[0]? = some (.cells [v] false) := fun X => at_up c0
    have k1 : ∀ X : List AO, (hk ++ X)[1]? = some (.cells [I mt, I j, I mp] false) := fun X => at_up c1
    have ka : ∀ X : List AO, (hk ++ X)[a]? = some (.cells [.ms 3 (o + 2) 0 C.length] false) := fun X => at_up ca
    have p1 : ∀ x y : AO, (hk ++ [x] ++ [y])[hk.length + 1]? = some y := fun x y => by simp
    have p2 : ∀ x y z : AO, (hk ++ [x] ++ [y]).set (hk.length + 1) z = hk ++ [x] ++ [z] := fun x y z => by simp
    have p3 : ∀ x y : AO, (hk ++ [x] ++ [y])[hk.length]? = some x := fun x y => by simp
    simp (disch := first | assumption | omega | (simp only [az]; done)) only [ru, eq_self, if_true, if_false, BEq.rfl, binI, AO.row?, splice, fillL, mmAll, loadV, storeV, zeros, Am.rowAt, Am.part, addOff, Nat.reduceAdd, Nat.reduceMul, Nat.reduceLeDiff, Nat.reduceSub, Nat.reduceLT, Int.reduceEq, Int.reduceLT, Int.reduceLE, Int.reduceGT, Int.reduceGE, Int.reduceAdd, Int.reduceSub, Int.reduceMul, Int.reduceNeg, Int.reduceToNat, reduceCtorEq, reduceIte, hlt, lenV_sl hv, view_sl hv, scalar_sl hv, cells_sl hv, pure_sl hv, c0, c1, ca, k0, k1, ka, p1, p2, p3, view_agg, vw, vm, t45r V, hr2, Bool.not_true, gUn, g1, g2, f1, f2, s1, s2, d1, d2, b27, ne, lenE, setE, atE, lenV_sl rl, view_sl rl, scalar_sl rl, cells_sl rl, pure_sl rl, pex_eqS, eq, Option.map_some, t17]
    done
end
end Go.Proofs.Ytaeijjfgfenfhaa.S

