/-
CutsChanged: who is changed.
-/
import Derived.Test.YtkmcbiimlnphmaaS3
namespace Go.Proofs.Ytkmcbiimlnphmaa.S
open Go Go.Am Go.Proofs.Ytkmcbiimlnphmaa.T
set_option maxRecDepth 100000
set_option linter.unusedSimpArgs false
set_option linter.unusedVariables false

section
variable {t : List Pt} {v w : AV} {l : List Int}
theorem chd_true (T : TG t) {m : Int} (hm : Lst t (cD t) = some m) {p : Nat} (hp : p < t.length) (sb : Bool) {u : Nat → Int} (hu : PartF t u) (hc : chg t u t.length = m) (h : sb = decide (awy (t.getD p default).w (u p) = 0)) : Lst t (cK t p sb) = Lst t (cD t) := by
  obtain ⟨x, hx, hle⟩ := (LstK T hp (sb := sb)).2 m ⟨u, hu, h, hc.symm⟩
  rcases cK_ge T hm hp (sb := sb) with ⟨y, hy, h2⟩ | h2
  · rw [hx] at hy; cases hy; rw [hx, hm]; congr 1; omega
  · rw [hx] at h2; cases h2
/-- in a parting with the least change -/
theorem chd_spec (T : TG t) {m : Int} (hm : Lst t (cD t) = some m) {p : Nat} (hp : p < t.length) {u : Nat → Int} (hu : PartF t u) (hc : chg t u t.length = m) : (chdV t p = 1 → inR (u p) (t.getD p default).w.lo (t.getD p default).w.hi = false) ∧ (chdV t p = 2 → inR (u p) (t.getD p default).w.lo (t.getD p default).w.hi = true) := by
  have key : ∀ sb : Bool, sb = decide (awy (t.getD p default).w (u p) = 0) → Lst t (cK t p sb) = Lst t (cD t) := fun sb h => chd_true T hm hp sb hu hc h
  have hz := @awy_zero (t.getD p default).w (u p)
  unfold chdV
  cases hi : inR (u p) (t.getD p default).w.lo (t.getD p default).w.hi
  · refine ⟨fun _ => rfl, fun h => ?_⟩
    have : ¬ awy (t.getD p default).w (u p) = 0 := fun e => by rw [inR_iff.2 (hz.1 e)] at hi; cases hi
    have k := key false (by rw [decide_eq_false this])
    split at h
    · cases h
    · rw [if_neg (not_not_intro k)] at h; cases h
  · have k := key true (by rw [decide_eq_true (hz.2 (inR_iff.1 hi))])
    refine ⟨fun h => ?_, fun _ => rfl⟩
    rw [if_neg (not_not_intro k)] at h
    split at h <;> cases h
theorem chd_zero (T : TG t) (hm : Lst t (cD t) = some 0) {p : Nat} (hp : p < t.length) : chdV t p = 2 := by
  obtain ⟨u, hu, e⟩ := (LstD T).1 0 hm
  have h0 := awy_zero.2 (chg_zero.1 e.symm p hp)
  have k := chd_true T hm hp true hu e.symm (by rw [h0]; rfl)
  unfold chdV
  rw [if_neg (not_not_intro k), if_pos]
  intro h
  rw [hm] at h
  obtain ⟨u2, hu2, e2, e3⟩ := (LstK T hp (sb := false)).1 0 h
  have := awy_zero.2 (chg_zero.1 e3.symm p hp)
  rw [this] at e2
  cases e2
theorem chd_rng {p : Nat} : inR (chdV t p) 1 3 = true := by
  unfold chdV; split
  · rfl
  · split <;> rfl
theorem cD_rng (T : TW t) {m : Int} (hm : Lst t (cD t) = some m) : 0 ≤ m ∧ m ≤ 240 := by
  obtain ⟨u, hu, e⟩ := (LstD T.toTG).1 m hm
  have h1 := chg_le T (fun i hi => (hu i hi).1) (Nat.le_refl t.length)
  have h2 := chg_nn (t := t) (u := u) (k := t.length)
  have := T.n
  omega
def chaN (t : List Pt) : Int := (Lst t (cD t)).getD (-1)
theorem s38 (H : TbOk t v) (hv : tval t = true) (st : Bool) : Iso E 38 [v] st = some (.tup [I (chaN t), Bo true]) := by
  have a := fun st => s43 H st
  refine Iso_of (es _ _ _ _) e38 ?_
  simp only [f38]
  simp only [chaR, hv, if_true] at a
  unfold chaN
  cases hm : Lst t (cD t) with
  | none =>
    simp only [hm] at a
    simp (disch := first | assumption | omega | (simp only [az]; done)) only [ru, eq_self, if_true, if_false, BEq.rfl, binI, AO.row?, splice, fillL, mmAll, loadV, storeV, zeros, Am.rowAt, Am.part, addOff, Nat.reduceAdd, Nat.reduceMul, Nat.reduceLeDiff, Nat.reduceSub, Nat.reduceLT, Int.reduceEq, Int.reduceLT, Int.reduceLE, Int.reduceGT, Int.reduceGE, Int.reduceAdd, Int.reduceSub, Int.reduceMul, Int.reduceNeg, Int.reduceToNat, reduceCtorEq, reduceIte, lenV_sl H.i, elem_pt H.i, view_sl H.i, scalar_sl H.i, cells_sl H.i, pure_sl H.i, Int.toNat_natCast, a, gUn, decide_true]
    done
  | some m =>
    have r := cD_rng (tval_W hv) hm
    have r1 : m ≥ 0 := r.1
    have r2 := r.2
    simp only [hm] at a
    simp (disch := first | assumption | omega | (simp only [az]; done)) only [ru, eq_self, if_true, if_false, BEq.rfl, binI, AO.row?, splice, fillL, mmAll, loadV, storeV, zeros, Am.rowAt, Am.part, addOff, Nat.reduceAdd, Nat.reduceMul, Nat.reduceLeDiff, Nat.reduceSub, Nat.reduceLT, Int.reduceEq, Int.reduceLT, Int.reduceLE, Int.reduceGT, Int.reduceGE, Int.reduceAdd, Int.reduceSub, Int.reduceMul, Int.reduceNeg, Int.reduceToNat, reduceCtorEq, reduceIte, lenV_sl H.i, elem_pt H.i, view_sl H.i, scalar_sl H.i, cells_sl H.i, pure_sl H.i, Int.toNat_natCast, a, gUn, r1, r2, decide_true]
    done
set_option maxHeartbeats 4000000 in
theorem s8 (H0 : TbIn t v) (V : IsSl 1 intL l w) : Iso E 8 [v, w] false = some (Bo true) := by
  have g0 := fun st => s16 H0 st
  refine Iso_of (es _ _ _ _) e8 ?_
  simp only [f8]
  cases hv : tval t
  case false => simp (disch := first | assumption | omega | (simp only [az]; done)) only [ru, eq_self, if_true, if_false, BEq.rfl, binI, AO.row?, splice, fillL, mmAll, loadV, storeV, zeros, Am.rowAt, Am.part, addOff, Nat.reduceAdd, Nat.reduceMul, Nat.reduceLeDiff, Nat.reduceSub, Nat.reduceLT, Int.reduceEq, Int.reduceLT, Int.reduceLE, Int.reduceGT, Int.reduceGE, Int.reduceAdd, Int.reduceSub, Int.reduceMul, Int.reduceNeg, Int.reduceToNat, reduceCtorEq, reduceIte, lenV_sl H0.i, elem_pt H0.i, view_sl H0.i, scalar_sl H0.i, cells_sl H0.i, pure_sl H0.i, Int.toNat_natCast, lenV_sl V, elem_in V, view_sl V, scalar_sl V, cells_sl V, pure_sl V, Int.toNat_natCast, g0, hv, gUn, s18, Bool.false_and]
  have T := tval_W hv
  have n8 := T.n
  have n40 : t.length ≤ 40 := by omega
  have H : TbOk t v := ⟨H0.i, by omega⟩
  have g0 : ∀ st, Iso E 16 [v] st = some (Bo true) := fun st => by rw [g0, hv, decide_eq_true n40]; rfl
  by_cases hl : (l.length : Int) > 40
  · simp (disch := first | assumption | omega | (simp only [az]; done)) only [ru, eq_self, if_true, if_false, BEq.rfl, binI, AO.row?, splice, fillL, mmAll, loadV, storeV, zeros, Am.rowAt, Am.part, addOff, Nat.reduceAdd, Nat.reduceMul, Nat.reduceLeDiff, Nat.reduceSub, Nat.reduceLT, Int.reduceEq, Int.reduceLT, Int.reduceLE, Int.reduceGT, Int.reduceGE, Int.reduceAdd, Int.reduceSub, Int.reduceMul, Int.reduceNeg, Int.reduceToNat, reduceCtorEq, reduceIte, lenV_sl H0.i, elem_pt H0.i, view_sl H0.i, scalar_sl H0.i, cells_sl H0.i, pure_sl H0.i, Int.toNat_natCast, lenV_sl V, elem_in V, view_sl V, scalar_sl V, cells_sl V, pure_sl V, Int.toNat_natCast, g0, hl, gUn, s18, decide_true, Bool.not_true]
  have a1 := fun st => s38 H hv st
  have a2 := s39 H
  simp only [fixR, hv, if_true] at a2
  unfold chaN at a1
  cases hm : Lst t (cD t) with
  | none =>
    simp only [hm, Option.getD_none] at a1 a2
    simp (disch := first | assumption | omega | (simp only [az]; done)) only [ru, eq_self, if_true, if_false, BEq.rfl, binI, AO.row?, splice, fillL, mmAll, loadV, storeV, zeros, Am.rowAt, Am.part, addOff, Nat.reduceAdd, Nat.reduceMul, Nat.reduceLeDiff, Nat.reduceSub, Nat.reduceLT, Int.reduceEq, Int.reduceLT, Int.reduceLE, Int.reduceGT, Int.reduceGE, Int.reduceAdd, Int.reduceSub, Int.reduceMul, Int.reduceNeg, Int.reduceToNat, reduceCtorEq, reduceIte, lenV_sl H0.i, elem_pt H0.i, view_sl H0.i, scalar_sl H0.i, cells_sl H0.i, pure_sl H0.i, Int.toNat_natCast, lenV_sl V, elem_in V, view_sl V, scalar_sl V, cells_sl V, pure_sl V, Int.toNat_natCast, g0, hl, a1, a2, gUn, s18, decide_true, Bool.not_true]
    done
  | some m =>
    have r := cD_rng T hm
    have r1 : ¬ m < 0 := by omega
    simp only [hm, Option.getD_some] at a1 a2
    obtain ⟨h1, h2⟩ := fix_part T.toTG hm
    have FV := resL_is (fixV t)
    have fl : (fixV t).length = t.length := fixU_len
    obtain ⟨F, hF⟩ : ∃ F, F = fixV t := ⟨_, rfl⟩
    rw [← hF] at FV h1 h2 fl a2
    obtain ⟨fv, hfv⟩ : ∃ fv, fv = resL F := ⟨_, rfl⟩
    rw [← hfv] at FV a2
    have fl' : ((F.length : Int) = t.length) := by omega
    have a3 := fun st => s40 H V st
    have cs : ∀ i, i < t.length → ∀ st, Iso E 45 [v, I i] st = some (.tup [I (chdV t i), I 0]) := fun i hi st => by
      rw [s45 H]; simp only [chdR, hv, if_true, hm, inR_iff.2 (show (0 : Int) ≤ (i : Int) ∧ (i : Int) ≤ t.length - 1 by omega), Int.toNat_natCast]
    have c0 : m = 0 → ∀ i, i < t.length → chdV t i = 2 := fun e i hi => chd_zero T.toTG (by rw [hm, e]) hi
    have cF := fun i (hi : i < t.length) => chd_spec T.toTG hm hi h1 h2
    have cL : parB t l = true → chg t (fu l) t.length = m → ∀ i, i < t.length → _ := fun e1 e2 i hi => chd_spec T.toTG hm hi (parB_iff.1 e1).2 e2
    have a4 : parB t l = true → ∀ st, Iso E 41 [v, w] st = some (I (chg t (fu l) t.length)) := fun h st => s41 H T V (parB_iff.1 h).1 (fun i hi => ((parB_iff.1 h).2 i hi).1) st
    have hb : ∃ so : Bool, (parB t l = false ∧ so = false) ∨ (parB t l = true ∧ ¬ chg t (fu l) t.length = m ∧ so = false) ∨ (parB t l = true ∧ chg t (fu l) t.length = m ∧ so = true) := by
      cases hp : parB t l
      · exact ⟨false, .inl ⟨rfl, rfl⟩⟩
      · by_cases hc : chg t (fu l) t.length = m
        · exact ⟨true, .inr (.inr ⟨rfl, hc, rfl⟩)⟩
        · exact ⟨false, .inr (.inl ⟨rfl, hc, rfl⟩)⟩
    obtain ⟨so, hb⟩ := hb
    have cL2 : so = true → ∀ i, i < t.length → (chdV t i = 1 → inR (fu l i) (t.getD i default).w.lo (t.getD i default).w.hi = false) ∧ (chdV t i = 2 → inR (fu l i) (t.getD i default).w.lo (t.getD i default).w.hi = true) := fun e i hi => by
      rcases hb with ⟨_, h⟩ | ⟨_, _, h⟩ | ⟨h3, h4, _⟩
      · rw [e] at h; cases h
      · rw [e] at h; cases h
      · exact cL h3 h4 i hi
    have ll : so = true → l.length = t.length := fun e => by
      rcases hb with ⟨_, h⟩ | ⟨_, _, h⟩ | ⟨h3, h4, _⟩
      · rw [e] at h; cases h
      · rw [e] at h; cases h
      · exact (parB_iff.1 h3).1
    rcases hb with ⟨hp, rfl⟩ | ⟨hp, hc, rfl⟩ | ⟨hp, hc, rfl⟩
    case inl =>
      simp (disch := first | assumption | omega | (simp only [az]; done)) only [ru, eq_self, if_true, if_false, BEq.rfl, binI, AO.row?, splice, fillL, mmAll, loadV, storeV, zeros, Am.rowAt, Am.part, addOff, Nat.reduceAdd, Nat.reduceMul, Nat.reduceLeDiff, Nat.reduceSub, Nat.reduceLT, Int.reduceEq, Int.reduceLT, Int.reduceLE, Int.reduceGT, Int.reduceGE, Int.reduceAdd, Int.reduceSub, Int.reduceMul, Int.reduceNeg, Int.reduceToNat, reduceCtorEq, reduceIte, lenV_sl H.i, elem_pt H.i, view_sl H.i, scalar_sl H.i, cells_sl H.i, pure_sl H.i, Int.toNat_natCast, lenV_sl V, elem_in V, view_sl V, scalar_sl V, cells_sl V, pure_sl V, Int.toNat_natCast, lenV_sl FV, elem_in FV, view_sl FV, scalar_sl FV, cells_sl FV, pure_sl FV, Int.toNat_natCast, g0, hl, a1, a2, r1, fl', a3, hp, gUn, s18, decide_true, Bool.not_true, bne_self_eq_false]
      refine G_loop_ind (fun m' ts h mk => ∃ i : Nat, i ≤ t.length ∧ m' = t.length - i ∧ ts.length = 151 ∧ ts.getD 0 .undef = v ∧ ts.getD 1 .undef = w ∧ ts.getD 5 .undef = I m ∧ ts.getD 7 .undef = fv ∧ ts.getD 9 .undef = Bo false ∧ ts.getD 10 .undef = I i ∧ h = [] ∧ mk = []) ?_ _ _ _ _ ⟨0, Nat.zero_le _, rfl, rfl, rfl, rfl, rfl, rfl, rfl, rfl, rfl, rfl⟩
      rintro m' ts h mk ih ⟨i, hi, rfl, hl', q0, q1, q5, q7, q9, q10, rfl, rfl⟩
      rw [lit_all hl']
      simp only [lit0, litS, Nat.reduceAdd, q0, q1, q5, q7, q9, q10]
      simp (disch := first | assumption | omega | (simp only [az]; done)) only [ru, eq_self, if_true, if_false, BEq.rfl, binI, AO.row?, splice, fillL, mmAll, loadV, storeV, zeros, Am.rowAt, Am.part, addOff, Nat.reduceAdd, Nat.reduceMul, Nat.reduceLeDiff, Nat.reduceSub, Nat.reduceLT, Int.reduceEq, Int.reduceLT, Int.reduceLE, Int.reduceGT, Int.reduceGE, Int.reduceAdd, Int.reduceSub, Int.reduceMul, Int.reduceNeg, Int.reduceToNat, reduceCtorEq, reduceIte, lenV_sl H.i, elem_pt H.i, view_sl H.i, scalar_sl H.i, cells_sl H.i, pure_sl H.i, Int.toNat_natCast]
      by_cases hlt : (i : Int) < t.length
      case neg => simp (disch := first | assumption | omega | (simp only [az]; done)) only [ru, eq_self, if_true, if_false, BEq.rfl, binI, AO.row?, splice, fillL, mmAll, loadV, storeV, zeros, Am.rowAt, Am.part, addOff, Nat.reduceAdd, Nat.reduceMul, Nat.reduceLeDiff, Nat.reduceSub, Nat.reduceLT, Int.reduceEq, Int.reduceLT, Int.reduceLE, Int.reduceGT, Int.reduceGE, Int.reduceAdd, Int.reduceSub, Int.reduceMul, Int.reduceNeg, Int.reduceToNat, reduceCtorEq, reduceIte, hlt, s18]
      have hi' : i < t.length := by omega
      have hiF : (i : Int) < F.length := by omega
      have b1 := cs i hi'
      have b2 := cF i hi'
      have rg := inR_iff.1 (@chd_rng t i)
      have b0 := fun e => c0 e i hi'
      have b3 := fun e => cL2 e i hi'
      simp only [fu] at b2 b3
      obtain ⟨x, hx⟩ : ∃ x, x = t.getD i default := ⟨_, rfl⟩
      rw [← hx] at b2 b3
      generalize chdV t i = c at b1 b2 b0 b3 rg
      have nx : ∃ i1 : Nat, i1 ≤ t.length ∧ True := ⟨0, Nat.zero_le _, trivial⟩
      have i1 : inR 1 1 3 = true := rfl
      have i2 : inR 2 1 3 = true := rfl
      have i3 : inR 3 1 3 = true := rfl
      rcases (show c = 1 ∨ c = 2 ∨ c = 3 by omega) with rfl | rfl | rfl
      · have b2' := b2.1 rfl
        have m0 : ¬ m = 0 := fun e => by have := b0 e; omega
        simp (disch := first | assumption | omega | (simp only [az]; done)) only [ru, eq_self, if_true, if_false, BEq.rfl, binI, AO.row?, splice, fillL, mmAll, loadV, storeV, zeros, Am.rowAt, Am.part, addOff, Nat.reduceAdd, Nat.reduceMul, Nat.reduceLeDiff, Nat.reduceSub, Nat.reduceLT, Int.reduceEq, Int.reduceLT, Int.reduceLE, Int.reduceGT, Int.reduceGE, Int.reduceAdd, Int.reduceSub, Int.reduceMul, Int.reduceNeg, Int.reduceToNat, reduceCtorEq, reduceIte, lenV_sl H.i, elem_pt H.i, view_sl H.i, scalar_sl H.i, cells_sl H.i, pure_sl H.i, Int.toNat_natCast, lenV_sl V, elem_in V, view_sl V, scalar_sl V, cells_sl V, pure_sl V, Int.toNat_natCast, lenV_sl FV, elem_in FV, view_sl FV, scalar_sl FV, cells_sl FV, pure_sl FV, Int.toNat_natCast, hlt, hiF, b1, ← hx, s30, i1, i2, i3, s22, b2', m0, decide_false, gUn, decide_true, Bool.not_true, bne_self_eq_false]
        exact ih (t.length - (i + 1)) _ _ _ (by omega) ⟨i + 1, by omega, rfl, rfl, rfl, rfl, rfl, rfl, rfl, rfl, rfl, rfl⟩
      · have b2' := b2.2 rfl
        by_cases m0 : m = 0
        · subst m0
          simp (disch := first | assumption | omega | (simp only [az]; done)) only [ru, eq_self, if_true, if_false, BEq.rfl, binI, AO.row?, splice, fillL, mmAll, loadV, storeV, zeros, Am.rowAt, Am.part, addOff, Nat.reduceAdd, Nat.reduceMul, Nat.reduceLeDiff, Nat.reduceSub, Nat.reduceLT, Int.reduceEq, Int.reduceLT, Int.reduceLE, Int.reduceGT, Int.reduceGE, Int.reduceAdd, Int.reduceSub, Int.reduceMul, Int.reduceNeg, Int.reduceToNat, reduceCtorEq, reduceIte, lenV_sl H.i, elem_pt H.i, view_sl H.i, scalar_sl H.i, cells_sl H.i, pure_sl H.i, Int.toNat_natCast, lenV_sl V, elem_in V, view_sl V, scalar_sl V, cells_sl V, pure_sl V, Int.toNat_natCast, lenV_sl FV, elem_in FV, view_sl FV, scalar_sl FV, cells_sl FV, pure_sl FV, Int.toNat_natCast, hlt, hiF, b1, ← hx, s30, i1, i2, i3, s22, b2',  gUn, decide_true, Bool.not_true, bne_self_eq_false]
          exact ih (t.length - (i + 1)) _ _ _ (by omega) ⟨i + 1, by omega, rfl, rfl, rfl, rfl, rfl, rfl, rfl, rfl, rfl, rfl⟩
        · skip
          simp (disch := first | assumption | omega | (simp only [az]; done)) only [ru, eq_self, if_true, if_false, BEq.rfl, binI, AO.row?, splice, fillL, mmAll, loadV, storeV, zeros, Am.rowAt, Am.part, addOff, Nat.reduceAdd, Nat.reduceMul, Nat.reduceLeDiff, Nat.reduceSub, Nat.reduceLT, Int.reduceEq, Int.reduceLT, Int.reduceLE, Int.reduceGT, Int.reduceGE, Int.reduceAdd, Int.reduceSub, Int.reduceMul, Int.reduceNeg, Int.reduceToNat, reduceCtorEq, reduceIte, lenV_sl H.i, elem_pt H.i, view_sl H.i, scalar_sl H.i, cells_sl H.i, pure_sl H.i, Int.toNat_natCast, lenV_sl V, elem_in V, view_sl V, scalar_sl V, cells_sl V, pure_sl V, Int.toNat_natCast, lenV_sl FV, elem_in FV, view_sl FV, scalar_sl FV, cells_sl FV, pure_sl FV, Int.toNat_natCast, hlt, hiF, b1, ← hx, s30, i1, i2, i3, s22, b2', m0, decide_false, gUn, decide_true, Bool.not_true, bne_self_eq_false]
          exact ih (t.length - (i + 1)) _ _ _ (by omega) ⟨i + 1, by omega, rfl, rfl, rfl, rfl, rfl, rfl, rfl, rfl, rfl, rfl⟩
      · have m0 : ¬ m = 0 := fun e => by have := b0 e; omega
        simp (disch := first | assumption | omega | (simp only [az]; done)) only [ru, eq_self, if_true, if_false, BEq.rfl, binI, AO.row?, splice, fillL, mmAll, loadV, storeV, zeros, Am.rowAt, Am.part, addOff, Nat.reduceAdd, Nat.reduceMul, Nat.reduceLeDiff, Nat.reduceSub, Nat.reduceLT, Int.reduceEq, Int.reduceLT, Int.reduceLE, Int.reduceGT, Int.reduceGE, Int.reduceAdd, Int.reduceSub, Int.reduceMul, Int.reduceNeg, Int.reduceToNat, reduceCtorEq, reduceIte, lenV_sl H.i, elem_pt H.i, view_sl H.i, scalar_sl H.i, cells_sl H.i, pure_sl H.i, Int.toNat_natCast, lenV_sl V, elem_in V, view_sl V, scalar_sl V, cells_sl V, pure_sl V, Int.toNat_natCast, lenV_sl FV, elem_in FV, view_sl FV, scalar_sl FV, cells_sl FV, pure_sl FV, Int.toNat_natCast, hlt, hiF, b1, ← hx, s30, i1, i2, i3, s22, m0, decide_false, gUn, decide_true, Bool.not_true, bne_self_eq_false]
        exact ih (t.length - (i + 1)) _ _ _ (by omega) ⟨i + 1, by omega, rfl, rfl, rfl, rfl, rfl, rfl, rfl, rfl, rfl, rfl⟩
    case inr.inl =>
      simp (disch := first | assumption | omega | (simp only [az]; done)) only [ru, eq_self, if_true, if_false, BEq.rfl, binI, AO.row?, splice, fillL, mmAll, loadV, storeV, zeros, Am.rowAt, Am.part, addOff, Nat.reduceAdd, Nat.reduceMul, Nat.reduceLeDiff, Nat.reduceSub, Nat.reduceLT, Int.reduceEq, Int.reduceLT, Int.reduceLE, Int.reduceGT, Int.reduceGE, Int.reduceAdd, Int.reduceSub, Int.reduceMul, Int.reduceNeg, Int.reduceToNat, reduceCtorEq, reduceIte, lenV_sl H.i, elem_pt H.i, view_sl H.i, scalar_sl H.i, cells_sl H.i, pure_sl H.i, Int.toNat_natCast, lenV_sl V, elem_in V, view_sl V, scalar_sl V, cells_sl V, pure_sl V, Int.toNat_natCast, lenV_sl FV, elem_in FV, view_sl FV, scalar_sl FV, cells_sl FV, pure_sl FV, Int.toNat_natCast, g0, hl, a1, a2, r1, fl', a3, hp, a4 hp, hc, decide_false, gUn, s18, decide_true, Bool.not_true, bne_self_eq_false]
      refine G_loop_ind (fun m' ts h mk => ∃ i : Nat, i ≤ t.length ∧ m' = t.length - i ∧ ts.length = 151 ∧ ts.getD 0 .undef = v ∧ ts.getD 1 .undef = w ∧ ts.getD 5 .undef = I m ∧ ts.getD 7 .undef = fv ∧ ts.getD 9 .undef = Bo false ∧ ts.getD 10 .undef = I i ∧ h = [] ∧ mk = []) ?_ _ _ _ _ ⟨0, Nat.zero_le _, rfl, rfl, rfl, rfl, rfl, rfl, rfl, rfl, rfl, rfl⟩
      rintro m' ts h mk ih ⟨i, hi, rfl, hl', q0, q1, q5, q7, q9, q10, rfl, rfl⟩
      rw [lit_all hl']
      simp only [lit0, litS, Nat.reduceAdd, q0, q1, q5, q7, q9, q10]
      simp (disch := first | assumption | omega | (simp only [az]; done)) only [ru, eq_self, if_true, if_false, BEq.rfl, binI, AO.row?, splice, fillL, mmAll, loadV, storeV, zeros, Am.rowAt, Am.part, addOff, Nat.reduceAdd, Nat.reduceMul, Nat.reduceLeDiff, Nat.reduceSub, Nat.reduceLT, Int.reduceEq, Int.reduceLT, Int.reduceLE, Int.reduceGT, Int.reduceGE, Int.reduceAdd, Int.reduceSub, Int.reduceMul, Int.reduceNeg, Int.reduceToNat, reduceCtorEq, reduceIte, lenV_sl H.i, elem_pt H.i, view_sl H.i, scalar_sl H.i, cells_sl H.i, pure_sl H.i, Int.toNat_natCast]
      by_cases hlt : (i : Int) < t.length
      case neg => simp (disch := first | assumption | omega | (simp only [az]; done)) only [ru, eq_self, if_true, if_false, BEq.rfl, binI, AO.row?, splice, fillL, mmAll, loadV, storeV, zeros, Am.rowAt, Am.part, addOff, Nat.reduceAdd, Nat.reduceMul, Nat.reduceLeDiff, Nat.reduceSub, Nat.reduceLT, Int.reduceEq, Int.reduceLT, Int.reduceLE, Int.reduceGT, Int.reduceGE, Int.reduceAdd, Int.reduceSub, Int.reduceMul, Int.reduceNeg, Int.reduceToNat, reduceCtorEq, reduceIte, hlt, s18]
      have hi' : i < t.length := by omega
      have hiF : (i : Int) < F.length := by omega
      have b1 := cs i hi'
      have b2 := cF i hi'
      have rg := inR_iff.1 (@chd_rng t i)
      have b0 := fun e => c0 e i hi'
      have b3 := fun e => cL2 e i hi'
      simp only [fu] at b2 b3
      obtain ⟨x, hx⟩ : ∃ x, x = t.getD i default := ⟨_, rfl⟩
      rw [← hx] at b2 b3
      generalize chdV t i = c at b1 b2 b0 b3 rg
      have nx : ∃ i1 : Nat, i1 ≤ t.length ∧ True := ⟨0, Nat.zero_le _, trivial⟩
      have i1 : inR 1 1 3 = true := rfl
      have i2 : inR 2 1 3 = true := rfl
      have i3 : inR 3 1 3 = true := rfl
      rcases (show c = 1 ∨ c = 2 ∨ c = 3 by omega) with rfl | rfl | rfl
      · have b2' := b2.1 rfl
        have m0 : ¬ m = 0 := fun e => by have := b0 e; omega
        simp (disch := first | assumption | omega | (simp only [az]; done)) only [ru, eq_self, if_true, if_false, BEq.rfl, binI, AO.row?, splice, fillL, mmAll, loadV, storeV, zeros, Am.rowAt, Am.part, addOff, Nat.reduceAdd, Nat.reduceMul, Nat.reduceLeDiff, Nat.reduceSub, Nat.reduceLT, Int.reduceEq, Int.reduceLT, Int.reduceLE, Int.reduceGT, Int.reduceGE, Int.reduceAdd, Int.reduceSub, Int.reduceMul, Int.reduceNeg, Int.reduceToNat, reduceCtorEq, reduceIte, lenV_sl H.i, elem_pt H.i, view_sl H.i, scalar_sl H.i, cells_sl H.i, pure_sl H.i, Int.toNat_natCast, lenV_sl V, elem_in V, view_sl V, scalar_sl V, cells_sl V, pure_sl V, Int.toNat_natCast, lenV_sl FV, elem_in FV, view_sl FV, scalar_sl FV, cells_sl FV, pure_sl FV, Int.toNat_natCast, hlt, hiF, b1, ← hx, s30, i1, i2, i3, s22, b2', m0, decide_false, gUn, decide_true, Bool.not_true, bne_self_eq_false]
        exact ih (t.length - (i + 1)) _ _ _ (by omega) ⟨i + 1, by omega, rfl, rfl, rfl, rfl, rfl, rfl, rfl, rfl, rfl, rfl⟩
      · have b2' := b2.2 rfl
        by_cases m0 : m = 0
        · subst m0
          simp (disch := first | assumption | omega | (simp only [az]; done)) only [ru, eq_self, if_true, if_false, BEq.rfl, binI, AO.row?, splice, fillL, mmAll, loadV, storeV, zeros, Am.rowAt, Am.part, addOff, Nat.reduceAdd, Nat.reduceMul, Nat.reduceLeDiff, Nat.reduceSub, Nat.reduceLT, Int.reduceEq, Int.reduceLT, Int.reduceLE, Int.reduceGT, Int.reduceGE, Int.reduceAdd, Int.reduceSub, Int.reduceMul, Int.reduceNeg, Int.reduceToNat, reduceCtorEq, reduceIte, lenV_sl H.i, elem_pt H.i, view_sl H.i, scalar_sl H.i, cells_sl H.i, pure_sl H.i, Int.toNat_natCast, lenV_sl V, elem_in V, view_sl V, scalar_sl V, cells_sl V, pure_sl V, Int.toNat_natCast, lenV_sl FV, elem_in FV, view_sl FV, scalar_sl FV, cells_sl FV, pure_sl FV, Int.toNat_natCast, hlt, hiF, b1, ← hx, s30, i1, i2, i3, s22, b2',  gUn, decide_true, Bool.not_true, bne_self_eq_false]
          exact ih (t.length - (i + 1)) _ _ _ (by omega) ⟨i + 1, by omega, rfl, rfl, rfl, rfl, rfl, rfl, rfl, rfl, rfl, rfl⟩
        · skip
          simp (disch := first | assumption | omega | (simp only [az]; done)) only [ru, eq_self, if_true, if_false, BEq.rfl, binI, AO.row?, splice, fillL, mmAll, loadV, storeV, zeros, Am.rowAt, Am.part, addOff, Nat.reduceAdd, Nat.reduceMul, Nat.reduceLeDiff, Nat.reduceSub, Nat.reduceLT, Int.reduceEq, Int.reduceLT, Int.reduceLE, Int.reduceGT, Int.reduceGE, Int.reduceAdd, Int.reduceSub, Int.reduceMul, Int.reduceNeg, Int.reduceToNat, reduceCtorEq, reduceIte, lenV_sl H.i, elem_pt H.i, view_sl H.i, scalar_sl H.i, cells_sl H.i, pure_sl H.i, Int.toNat_natCast, lenV_sl V, elem_in V, view_sl V, scalar_sl V, cells_sl V, pure_sl V, Int.toNat_natCast, lenV_sl FV, elem_in FV, view_sl FV, scalar_sl FV, cells_sl FV, pure_sl FV, Int.toNat_natCast, hlt, hiF, b1, ← hx, s30, i1, i2, i3, s22, b2', m0, decide_false, gUn, decide_true, Bool.not_true, bne_self_eq_false]
          exact ih (t.length - (i + 1)) _ _ _ (by omega) ⟨i + 1, by omega, rfl, rfl, rfl, rfl, rfl, rfl, rfl, rfl, rfl, rfl⟩
      · have m0 : ¬ m = 0 := fun e => by have := b0 e; omega
        simp (disch := first | assumption | omega | (simp only [az]; done)) only [ru, eq_self, if_true, if_false, BEq.rfl, binI, AO.row?, splice, fillL, mmAll, loadV, storeV, zeros, Am.rowAt, Am.part, addOff, Nat.reduceAdd, Nat.reduceMul, Nat.reduceLeDiff, Nat.reduceSub, Nat.reduceLT, Int.reduceEq, Int.reduceLT, Int.reduceLE, Int.reduceGT, Int.reduceGE, Int.reduceAdd, Int.reduceSub, Int.reduceMul, Int.reduceNeg, Int.reduceToNat, reduceCtorEq, reduceIte, lenV_sl H.i, elem_pt H.i, view_sl H.i, scalar_sl H.i, cells_sl H.i, pure_sl H.i, Int.toNat_natCast, lenV_sl V, elem_in V, view_sl V, scalar_sl V, cells_sl V, pure_sl V, Int.toNat_natCast, lenV_sl FV, elem_in FV, view_sl FV, scalar_sl FV, cells_sl FV, pure_sl FV, Int.toNat_natCast, hlt, hiF, b1, ← hx, s30, i1, i2, i3, s22, m0, decide_false, gUn, decide_true, Bool.not_true, bne_self_eq_false]
        exact ih (t.length - (i + 1)) _ _ _ (by omega) ⟨i + 1, by omega, rfl, rfl, rfl, rfl, rfl, rfl, rfl, rfl, rfl, rfl⟩
    case inr.inr =>
      simp (disch := first | assumption | omega | (simp only [az]; done)) only [ru, eq_self, if_true, if_false, BEq.rfl, binI, AO.row?, splice, fillL, mmAll, loadV, storeV, zeros, Am.rowAt, Am.part, addOff, Nat.reduceAdd, Nat.reduceMul, Nat.reduceLeDiff, Nat.reduceSub, Nat.reduceLT, Int.reduceEq, Int.reduceLT, Int.reduceLE, Int.reduceGT, Int.reduceGE, Int.reduceAdd, Int.reduceSub, Int.reduceMul, Int.reduceNeg, Int.reduceToNat, reduceCtorEq, reduceIte, lenV_sl H.i, elem_pt H.i, view_sl H.i, scalar_sl H.i, cells_sl H.i, pure_sl H.i, Int.toNat_natCast, lenV_sl V, elem_in V, view_sl V, scalar_sl V, cells_sl V, pure_sl V, Int.toNat_natCast, lenV_sl FV, elem_in FV, view_sl FV, scalar_sl FV, cells_sl FV, pure_sl FV, Int.toNat_natCast, g0, hl, a1, a2, r1, fl', a3, hp, a4 hp, hc, gUn, s18, decide_true, Bool.not_true, bne_self_eq_false]
      refine G_loop_ind (fun m' ts h mk => ∃ i : Nat, i ≤ t.length ∧ m' = t.length - i ∧ ts.length = 151 ∧ ts.getD 0 .undef = v ∧ ts.getD 1 .undef = w ∧ ts.getD 5 .undef = I m ∧ ts.getD 7 .undef = fv ∧ ts.getD 9 .undef = Bo true ∧ ts.getD 10 .undef = I i ∧ h = [] ∧ mk = []) ?_ _ _ _ _ ⟨0, Nat.zero_le _, rfl, rfl, rfl, rfl, rfl, rfl, rfl, rfl, rfl, rfl⟩
      rintro m' ts h mk ih ⟨i, hi, rfl, hl', q0, q1, q5, q7, q9, q10, rfl, rfl⟩
      rw [lit_all hl']
      simp only [lit0, litS, Nat.reduceAdd, q0, q1, q5, q7, q9, q10]
      simp (disch := first | assumption | omega | (simp only [az]; done)) only [ru, eq_self, if_true, if_false, BEq.rfl, binI, AO.row?, splice, fillL, mmAll, loadV, storeV, zeros, Am.rowAt, Am.part, addOff, Nat.reduceAdd, Nat.reduceMul, Nat.reduceLeDiff, Nat.reduceSub, Nat.reduceLT, Int.reduceEq, Int.reduceLT, Int.reduceLE, Int.reduceGT, Int.reduceGE, Int.reduceAdd, Int.reduceSub, Int.reduceMul, Int.reduceNeg, Int.reduceToNat, reduceCtorEq, reduceIte, lenV_sl H.i, elem_pt H.i, view_sl H.i, scalar_sl H.i, cells_sl H.i, pure_sl H.i, Int.toNat_natCast]
      by_cases hlt : (i : Int) < t.length
      case neg => simp (disch := first | assumption | omega | (simp only [az]; done)) only [ru, eq_self, if_true, if_false, BEq.rfl, binI, AO.row?, splice, fillL, mmAll, loadV, storeV, zeros, Am.rowAt, Am.part, addOff, Nat.reduceAdd, Nat.reduceMul, Nat.reduceLeDiff, Nat.reduceSub, Nat.reduceLT, Int.reduceEq, Int.reduceLT, Int.reduceLE, Int.reduceGT, Int.reduceGE, Int.reduceAdd, Int.reduceSub, Int.reduceMul, Int.reduceNeg, Int.reduceToNat, reduceCtorEq, reduceIte, hlt, s18]
      have hi' : i < t.length := by omega
      have hiF : (i : Int) < F.length := by omega
      have b1 := cs i hi'
      have b2 := cF i hi'
      have rg := inR_iff.1 (@chd_rng t i)
      have b0 := fun e => c0 e i hi'
      have b3 := fun e => cL2 e i hi'
      simp only [fu] at b2 b3
      obtain ⟨x, hx⟩ : ∃ x, x = t.getD i default := ⟨_, rfl⟩
      rw [← hx] at b2 b3
      generalize chdV t i = c at b1 b2 b0 b3 rg
      have nx : ∃ i1 : Nat, i1 ≤ t.length ∧ True := ⟨0, Nat.zero_le _, trivial⟩
      have i1 : inR 1 1 3 = true := rfl
      have i2 : inR 2 1 3 = true := rfl
      have i3 : inR 3 1 3 = true := rfl
      rcases (show c = 1 ∨ c = 2 ∨ c = 3 by omega) with rfl | rfl | rfl
      · have b2' := b2.1 rfl
        have m0 : ¬ m = 0 := fun e => by have := b0 e; omega
        have b3' := (b3 trivial).1 rfl
        have hiL : (i : Int) < l.length := by have := ll rfl; omega
        simp (disch := first | assumption | omega | (simp only [az]; done)) only [ru, eq_self, if_true, if_false, BEq.rfl, binI, AO.row?, splice, fillL, mmAll, loadV, storeV, zeros, Am.rowAt, Am.part, addOff, Nat.reduceAdd, Nat.reduceMul, Nat.reduceLeDiff, Nat.reduceSub, Nat.reduceLT, Int.reduceEq, Int.reduceLT, Int.reduceLE, Int.reduceGT, Int.reduceGE, Int.reduceAdd, Int.reduceSub, Int.reduceMul, Int.reduceNeg, Int.reduceToNat, reduceCtorEq, reduceIte, lenV_sl H.i, elem_pt H.i, view_sl H.i, scalar_sl H.i, cells_sl H.i, pure_sl H.i, Int.toNat_natCast, lenV_sl V, elem_in V, view_sl V, scalar_sl V, cells_sl V, pure_sl V, Int.toNat_natCast, lenV_sl FV, elem_in FV, view_sl FV, scalar_sl FV, cells_sl FV, pure_sl FV, Int.toNat_natCast, hlt, hiF, hiL, b1, ← hx, s30, i1, i2, i3, s22, b3', b2', m0, decide_false, gUn, decide_true, Bool.not_true, bne_self_eq_false]
        exact ih (t.length - (i + 1)) _ _ _ (by omega) ⟨i + 1, by omega, rfl, rfl, rfl, rfl, rfl, rfl, rfl, rfl, rfl, rfl⟩
      · have b2' := b2.2 rfl
        by_cases m0 : m = 0
        · subst m0
          have b3' := (b3 trivial).2 rfl
          have hiL : (i : Int) < l.length := by have := ll rfl; omega
          simp (disch := first | assumption | omega | (simp only [az]; done)) only [ru, eq_self, if_true, if_false, BEq.rfl, binI, AO.row?, splice, fillL, mmAll, loadV, storeV, zeros, Am.rowAt, Am.part, addOff, Nat.reduceAdd, Nat.reduceMul, Nat.reduceLeDiff, Nat.reduceSub, Nat.reduceLT, Int.reduceEq, Int.reduceLT, Int.reduceLE, Int.reduceGT, Int.reduceGE, Int.reduceAdd, Int.reduceSub, Int.reduceMul, Int.reduceNeg, Int.reduceToNat, reduceCtorEq, reduceIte, lenV_sl H.i, elem_pt H.i, view_sl H.i, scalar_sl H.i, cells_sl H.i, pure_sl H.i, Int.toNat_natCast, lenV_sl V, elem_in V, view_sl V, scalar_sl V, cells_sl V, pure_sl V, Int.toNat_natCast, lenV_sl FV, elem_in FV, view_sl FV, scalar_sl FV, cells_sl FV, pure_sl FV, Int.toNat_natCast, hlt, hiF, hiL, b1, ← hx, s30, i1, i2, i3, s22, b3', b2',  gUn, decide_true, Bool.not_true, bne_self_eq_false]
          exact ih (t.length - (i + 1)) _ _ _ (by omega) ⟨i + 1, by omega, rfl, rfl, rfl, rfl, rfl, rfl, rfl, rfl, rfl, rfl⟩
        · skip
          have b3' := (b3 trivial).2 rfl
          have hiL : (i : Int) < l.length := by have := ll rfl; omega
          simp (disch := first | assumption | omega | (simp only [az]; done)) only [ru, eq_self, if_true, if_false, BEq.rfl, binI, AO.row?, splice, fillL, mmAll, loadV, storeV, zeros, Am.rowAt, Am.part, addOff, Nat.reduceAdd, Nat.reduceMul, Nat.reduceLeDiff, Nat.reduceSub, Nat.reduceLT, Int.reduceEq, Int.reduceLT, Int.reduceLE, Int.reduceGT, Int.reduceGE, Int.reduceAdd, Int.reduceSub, Int.reduceMul, Int.reduceNeg, Int.reduceToNat, reduceCtorEq, reduceIte, lenV_sl H.i, elem_pt H.i, view_sl H.i, scalar_sl H.i, cells_sl H.i, pure_sl H.i, Int.toNat_natCast, lenV_sl V, elem_in V, view_sl V, scalar_sl V, cells_sl V, pure_sl V, Int.toNat_natCast, lenV_sl FV, elem_in FV, view_sl FV, scalar_sl FV, cells_sl FV, pure_sl FV, Int.toNat_natCast, hlt, hiF, hiL, b1, ← hx, s30, i1, i2, i3, s22, b3', b2', m0, decide_false, gUn, decide_true, Bool.not_true, bne_self_eq_false]
          exact ih (t.length - (i + 1)) _ _ _ (by omega) ⟨i + 1, by omega, rfl, rfl, rfl, rfl, rfl, rfl, rfl, rfl, rfl, rfl⟩
      · have m0 : ¬ m = 0 := fun e => by have := b0 e; omega
        simp (disch := first | assumption | omega | (simp only [az]; done)) only [ru, eq_self, if_true, if_false, BEq.rfl, binI, AO.row?, splice, fillL, mmAll, loadV, storeV, zeros, Am.rowAt, Am.part, addOff, Nat.reduceAdd, Nat.reduceMul, Nat.reduceLeDiff, Nat.reduceSub, Nat.reduceLT, Int.reduceEq, Int.reduceLT, Int.reduceLE, Int.reduceGT, Int.reduceGE, Int.reduceAdd, Int.reduceSub, Int.reduceMul, Int.reduceNeg, Int.reduceToNat, reduceCtorEq, reduceIte, lenV_sl H.i, elem_pt H.i, view_sl H.i, scalar_sl H.i, cells_sl H.i, pure_sl H.i, Int.toNat_natCast, lenV_sl V, elem_in V, view_sl V, scalar_sl V, cells_sl V, pure_sl V, Int.toNat_natCast, lenV_sl FV, elem_in FV, view_sl FV, scalar_sl FV, cells_sl FV, pure_sl FV, Int.toNat_natCast, hlt, hiF, b1, ← hx, s30, i1, i2, i3, s22, m0, decide_false, gUn, decide_true, Bool.not_true, bne_self_eq_false]
        exact ih (t.length - (i + 1)) _ _ _ (by omega) ⟨i + 1, by omega, rfl, rfl, rfl, rfl, rfl, rfl, rfl, rfl, rfl, rfl⟩
end
end Go.Proofs.Ytkmcbiimlnphmaa.S

