/-
The catch as a weight, and what a crew that holds surely does.
-/
import Derived.Test.YtokhneffambgmaaA3
namespace Go.Proofs.Ytokhneffambgmaa.A
open Go Go.Am Go.Proofs.Ytokhneffambgmaa.T
set_option maxRecDepth 100000
set_option linter.unusedSimpArgs false
set_option linter.unusedVariables false

section
variable {s : Sea} {p b : AV}
theorem sWith (H : SeaOk s p b) {lo hi x : Int} (h1 : 0 ≤ lo * x) (h2 : lo * x ≤ 2000) (h3 : 0 ≤ hi * x) (h4 : hi * x ≤ 2000) : Iso E 10 [seaV s p b, .agg [I lo, I hi], I x] false = some (.agg [I (lo * x), I (hi * x), slV 2 Spn.e s.pl, slV 2 Bt.e s.bo]) := by
  have c1 := fun st => s40 H st
  have HP : SeaOk s (slV 2 Spn.e s.pl) (slV 2 Bt.e s.bo) := ⟨⟨slV_is, slV_is⟩, H.sp, H.sb⟩
  simp only [cpV, seaV] at c1
  obtain ⟨P, hP⟩ : ∃ P, P = slV 2 Spn.e s.pl := ⟨_, rfl⟩
  obtain ⟨B, hB⟩ : ∃ B, B = slV 2 Bt.e s.bo := ⟨_, rfl⟩
  rw [← hP, ← hB] at HP ⊢
  simp only [← hP, ← hB] at c1
  refine Iso_of (es _ _ _ _) e10 ?_
  simp only [f10, seaV]
  simp (disch := first | assumption | omega | (simp only [az]; done)) only [ru, eq_self, if_true, if_false, BEq.rfl, binI, AO.row?, splice, fillL, mmAll, loadV, storeV, zeros, Am.rowAt, Am.part, addOff, Nat.reduceAdd, Nat.reduceMul, Nat.reduceLeDiff, Nat.reduceSub, Nat.reduceLT, Int.reduceEq, Int.reduceLT, Int.reduceLE, Int.reduceGT, Int.reduceGE, Int.reduceAdd, Int.reduceSub, Int.reduceMul, Int.reduceNeg, Int.reduceToNat, reduceCtorEq, reduceIte, lenV_sl H.p, lenV_sl H.b, elem_sp H.p, elem_bt H.b, view_sl H.p, view_sl H.b, scalar_sl H.p, scalar_sl H.b, cells_sl H.p, cells_sl H.b, pure_sl H.p, pure_sl H.b, Int.toNat_natCast, lenV_sl HP.p, lenV_sl HP.b, elem_sp HP.p, elem_bt HP.b, view_sl HP.p, view_sl HP.b, scalar_sl HP.p, scalar_sl HP.b, cells_sl HP.p, cells_sl HP.b, pure_sl HP.p, pure_sl HP.b, Int.toNat_natCast, c1, atE, setE, finC, getRes, Option.some.injEq, exists_eq_left']
end
section
variable {s : Sea} {u v : Spn} {l : List Int} {c pj bj pw bw : AV}
set_option maxHeartbeats 4000000 in
theorem sSurer (HJ : SeaOk ⟨v, s.pl, s.bo⟩ pj bj) (HW : SeaOk ⟨u, s.pl, s.bo⟩ pw bw) (vJ : (⟨v, s.pl, s.bo⟩ : Sea).valid = true) (vW : (⟨u, s.pl, s.bo⟩ : Sea).valid = true) (h1 : u.lo ≤ v.lo) (h2 : v.hi ≤ u.hi) (V : IsSl 1 intL l c) (hl : l.length ≤ 40) :
    Iso E 11 [.agg [I v.lo, I v.hi, pj, bj], .agg [I u.lo, I u.hi, pw, bw], c] false = some (Bo true) := by
  have KJ := (valid_good vJ).1
  have KW := (valid_good vW).1
  have a1 := fun st => s26 HJ V (by omega) st
  have W := slV_is (esz := 1) (enc := intL) (l := l)
  have a2 := fun st => s27 HW W (by omega) st
  have a3 := fun st => s27 HJ W (by omega) st
  have a4 := fun st => s32 HW st
  have a5 := fun st => s32 HJ st
  have ec : crB ⟨u, s.pl, s.bo⟩ l = crB ⟨v, s.pl, s.bo⟩ l := rfl
  have sw := fun h => saf_w KW KJ h1 h2 (l := l) h
  have si := saf_in (s := ⟨u, s.pl, s.bo⟩) (l := l)
  have cw := fun x hx => crew_w KW KJ h2 (x := x) hx
  have nn := fun x (hx : crew ⟨u, s.pl, s.bo⟩ = some x) => hx
  have qp := HJ.p; have qb := HJ.b; have rp := HW.p; have rb := HW.b
  obtain ⟨cwv, x0, x1, A1, RD1⟩ := cpyG (eb := 8) (lim := 0) (J := []) (h := [.cells [I v.lo, I v.hi, pj, bj] false, .cells [I u.lo, I u.hi, pw, bw] false]) V intE intSc (by omega) (by omega) (Nat.zero_le _)
  have rv1 := fun st => (RD1 []).view intE intIv (st := st) (k := 7)
  obtain ⟨cwv2, x2, x3, A2, RD2⟩ := cpyG (eb := 8) (lim := 0) (J := []) (h := [.cells [I v.lo, I v.hi, pj, bj] false, .cells [I u.lo, I u.hi, pw, bw] false, x0, x1]) V intE intSc (by omega) (by omega) (Nat.zero_le _)
  have rv2 := fun st => (RD2 []).view intE intIv (st := st) (k := 7)
  simp only [apC, apN, lenS, len0, Nat.zero_add, Nat.reduceAdd] at A1 rv1 A2 rv2
  simp only [seaV, safR, cheR, vJ, vW, if_true, ec] at a1 a2 a3 a4 a5
  obtain ⟨k, hk⟩ : ∃ k, k = saf ⟨u, s.pl, s.bo⟩ l := ⟨_, rfl⟩
  obtain ⟨j, hj⟩ : ∃ j, j = saf ⟨v, s.pl, s.bo⟩ l := ⟨_, rfl⟩
  simp only [← hk, ← hj] at a2 a3 sw si
  have ki : inR k 1 3 = true := inR_iff.2 si
  -- the cheapest
  obtain ⟨m, e, n, f, a4', a5', fin⟩ : ∃ m e n f : Int, (∀ st, Iso E 13 [.agg [I u.lo, I u.hi, pw, bw]] st = some (.tup [I m, I e])) ∧ (∀ st, Iso E 13 [.agg [I v.lo, I v.hi, pj, bj]] st = some (.tup [I n, I f])) ∧ (e = 3 ∨ e = 0 ∧ f = 0 ∧ n ≥ 0 ∧ n ≤ m) := by
    cases hx : crew ⟨u, s.pl, s.bo⟩ with
    | none =>
      simp only [hx] at a4
      cases hy : crew ⟨v, s.pl, s.bo⟩ with
      | none => simp only [hy] at a5; exact ⟨_, _, _, _, a4, a5, .inl rfl⟩
      | some y => simp only [hy] at a5; exact ⟨_, _, _, _, a4, a5, .inl rfl⟩
    | some x =>
      obtain ⟨y, hy, y1, y2⟩ := cw x hx
      simp only [hx] at a4
      simp only [hy] at a5
      exact ⟨_, _, _, _, a4, a5, .inr ⟨rfl, rfl, y1, y2⟩⟩
  refine Iso_of (es _ _ _ _) e11 ?_
  simp only [f11]
  cases hc : crB ⟨v, s.pl, s.bo⟩ l
  · rcases fin with rfl | ⟨rfl, rfl, g1, g2⟩
    · simp (disch := first | assumption | omega | (simp only [az]; done)) only [ru, eq_self, if_true, if_false, BEq.rfl, binI, AO.row?, splice, fillL, mmAll, loadV, storeV, zeros, Am.rowAt, Am.part, addOff, Nat.reduceAdd, Nat.reduceMul, Nat.reduceLeDiff, Nat.reduceSub, Nat.reduceLT, Int.reduceEq, Int.reduceLT, Int.reduceLE, Int.reduceGT, Int.reduceGE, Int.reduceAdd, Int.reduceSub, Int.reduceMul, Int.reduceNeg, Int.reduceToNat, reduceCtorEq, reduceIte, lenV_sl V, elem_in V, view_sl V, scalar_sl V, cells_sl V, pure_sl V, Int.toNat_natCast, lenV_sl qp, view_sl qp, scalar_sl qp, cells_sl qp, pure_sl qp, lenV_sl qb, view_sl qb, scalar_sl qb, cells_sl qb, pure_sl qb, lenV_sl rp, view_sl rp, scalar_sl rp, cells_sl rp, pure_sl rp, lenV_sl rb, view_sl rb, scalar_sl rb, cells_sl rb, pure_sl rb, a1, hc, a4', a5', gUn, decide_true, decide_false]
    · simp (disch := first | assumption | omega | (simp only [az]; done)) only [ru, eq_self, if_true, if_false, BEq.rfl, binI, AO.row?, splice, fillL, mmAll, loadV, storeV, zeros, Am.rowAt, Am.part, addOff, Nat.reduceAdd, Nat.reduceMul, Nat.reduceLeDiff, Nat.reduceSub, Nat.reduceLT, Int.reduceEq, Int.reduceLT, Int.reduceLE, Int.reduceGT, Int.reduceGE, Int.reduceAdd, Int.reduceSub, Int.reduceMul, Int.reduceNeg, Int.reduceToNat, reduceCtorEq, reduceIte, lenV_sl V, elem_in V, view_sl V, scalar_sl V, cells_sl V, pure_sl V, Int.toNat_natCast, lenV_sl qp, view_sl qp, scalar_sl qp, cells_sl qp, pure_sl qp, lenV_sl qb, view_sl qb, scalar_sl qb, cells_sl qb, pure_sl qb, lenV_sl rp, view_sl rp, scalar_sl rp, cells_sl rp, pure_sl rp, lenV_sl rb, view_sl rb, scalar_sl rb, cells_sl rb, pure_sl rb, a1, hc, a4', a5', g1, g2, gUn, decide_true, decide_false]
  · simp only [hc, if_true] at a2 a3
    have sw' := sw (cr_at hc).1
    by_cases k3 : k = 3
    · subst k3
      rcases fin with rfl | ⟨rfl, rfl, g1, g2⟩
      · simp (disch := first | assumption | omega | (simp only [az]; done)) only [ru, eq_self, if_true, if_false, BEq.rfl, binI, AO.row?, splice, fillL, mmAll, loadV, storeV, zeros, Am.rowAt, Am.part, addOff, Nat.reduceAdd, Nat.reduceMul, Nat.reduceLeDiff, Nat.reduceSub, Nat.reduceLT, Int.reduceEq, Int.reduceLT, Int.reduceLE, Int.reduceGT, Int.reduceGE, Int.reduceAdd, Int.reduceSub, Int.reduceMul, Int.reduceNeg, Int.reduceToNat, reduceCtorEq, reduceIte, lenV_sl V, elem_in V, view_sl V, scalar_sl V, cells_sl V, pure_sl V, Int.toNat_natCast, lenV_sl qp, view_sl qp, scalar_sl qp, cells_sl qp, pure_sl qp, lenV_sl qb, view_sl qb, scalar_sl qb, cells_sl qb, pure_sl qb, lenV_sl rp, view_sl rp, scalar_sl rp, cells_sl rp, pure_sl rp, lenV_sl rb, view_sl rb, scalar_sl rb, cells_sl rb, pure_sl rb, a1, hc, GO_mapp, unhN, unhC, A1, rv1, A2, rv2, a2, a3, s17, ki, a4', a5', gUn, decide_true, decide_false, bne_self_eq_false]
      · simp (disch := first | assumption | omega | (simp only [az]; done)) only [ru, eq_self, if_true, if_false, BEq.rfl, binI, AO.row?, splice, fillL, mmAll, loadV, storeV, zeros, Am.rowAt, Am.part, addOff, Nat.reduceAdd, Nat.reduceMul, Nat.reduceLeDiff, Nat.reduceSub, Nat.reduceLT, Int.reduceEq, Int.reduceLT, Int.reduceLE, Int.reduceGT, Int.reduceGE, Int.reduceAdd, Int.reduceSub, Int.reduceMul, Int.reduceNeg, Int.reduceToNat, reduceCtorEq, reduceIte, lenV_sl V, elem_in V, view_sl V, scalar_sl V, cells_sl V, pure_sl V, Int.toNat_natCast, lenV_sl qp, view_sl qp, scalar_sl qp, cells_sl qp, pure_sl qp, lenV_sl qb, view_sl qb, scalar_sl qb, cells_sl qb, pure_sl qb, lenV_sl rp, view_sl rp, scalar_sl rp, cells_sl rp, pure_sl rp, lenV_sl rb, view_sl rb, scalar_sl rb, cells_sl rb, pure_sl rb, a1, hc, GO_mapp, unhN, unhC, A1, rv1, A2, rv2, a2, a3, s17, ki, a4', a5', g1, g2, gUn, decide_true, decide_false, bne_self_eq_false]
    · have e2 : j = k := by rcases sw' with h | h; exact absurd h k3; exact h
      subst e2
      rcases fin with rfl | ⟨rfl, rfl, g1, g2⟩
      · simp (disch := first | assumption | omega | (simp only [az]; done)) only [ru, eq_self, if_true, if_false, BEq.rfl, binI, AO.row?, splice, fillL, mmAll, loadV, storeV, zeros, Am.rowAt, Am.part, addOff, Nat.reduceAdd, Nat.reduceMul, Nat.reduceLeDiff, Nat.reduceSub, Nat.reduceLT, Int.reduceEq, Int.reduceLT, Int.reduceLE, Int.reduceGT, Int.reduceGE, Int.reduceAdd, Int.reduceSub, Int.reduceMul, Int.reduceNeg, Int.reduceToNat, reduceCtorEq, reduceIte, lenV_sl V, elem_in V, view_sl V, scalar_sl V, cells_sl V, pure_sl V, Int.toNat_natCast, lenV_sl qp, view_sl qp, scalar_sl qp, cells_sl qp, pure_sl qp, lenV_sl qb, view_sl qb, scalar_sl qb, cells_sl qb, pure_sl qb, lenV_sl rp, view_sl rp, scalar_sl rp, cells_sl rp, pure_sl rp, lenV_sl rb, view_sl rb, scalar_sl rb, cells_sl rb, pure_sl rb, a1, hc, GO_mapp, unhN, unhC, A1, rv1, A2, rv2, a2, a3, s17, ki, k3, a4', a5', gUn, decide_true, decide_false, bne_self_eq_false]
      · simp (disch := first | assumption | omega | (simp only [az]; done)) only [ru, eq_self, if_true, if_false, BEq.rfl, binI, AO.row?, splice, fillL, mmAll, loadV, storeV, zeros, Am.rowAt, Am.part, addOff, Nat.reduceAdd, Nat.reduceMul, Nat.reduceLeDiff, Nat.reduceSub, Nat.reduceLT, Int.reduceEq, Int.reduceLT, Int.reduceLE, Int.reduceGT, Int.reduceGE, Int.reduceAdd, Int.reduceSub, Int.reduceMul, Int.reduceNeg, Int.reduceToNat, reduceCtorEq, reduceIte, lenV_sl V, elem_in V, view_sl V, scalar_sl V, cells_sl V, pure_sl V, Int.toNat_natCast, lenV_sl qp, view_sl qp, scalar_sl qp, cells_sl qp, pure_sl qp, lenV_sl qb, view_sl qb, scalar_sl qb, cells_sl qb, pure_sl qb, lenV_sl rp, view_sl rp, scalar_sl rp, cells_sl rp, pure_sl rp, lenV_sl rb, view_sl rb, scalar_sl rb, cells_sl rb, pure_sl rb, a1, hc, GO_mapp, unhN, unhC, A1, rv1, A2, rv2, a2, a3, s17, ki, k3, a4', a5', g1, g2, gUn, decide_true, decide_false, bne_self_eq_false]
end
end Go.Proofs.Ytokhneffambgmaa.A
