/-
CutsChange: the least change, and the first parting with it.
-/
import Derived.Test.YtkmcbiimlnphmaaYh
namespace Go.Proofs.Ytkmcbiimlnphmaa.S
open Go Go.Am Go.Proofs.Ytkmcbiimlnphmaa.T
set_option maxRecDepth 100000
set_option linter.unusedSimpArgs false
set_option linter.unusedVariables false

section
variable {t : List Pt} {v w : AV} {l k : List Int}
/-- with the first weights as words -/
def onlU (t : List Pt) (k : List Int) : Nat → List Pt
  | 0 => t
  | i + 1 => onl (onlU t k i) i (k.getD i 0)
theorem onlU_len : ∀ {i : Nat}, (onlU t k i).length = t.length
  | 0 => rfl
  | i + 1 => by rw [onlU, onl_len, onlU_len]
theorem onlU_val (hv : tval t = true) (hk : ∀ i, i < t.length → 0 ≤ k.getD i 0 ∧ k.getD i 0 ≤ 30) : ∀ {i : Nat}, i ≤ t.length → tval (onlU t k i) = true
  | 0, _ => hv
  | i + 1, h => onl_val (onlU_val hv hk (by omega)) (by rw [onlU_len]; omega) (hk i (by omega))
theorem onlU_par {u : Nat → Int} : ∀ {i : Nat}, i ≤ t.length → (PartF (onlU t k i) u ↔ PartF t u)
  | 0, _ => Iff.rfl
  | i + 1, h => by rw [onlU, onl_par (by rw [onlU_len]; omega), onlU_par (by omega)]
theorem onlU_w : ∀ {i j : Nat}, i ≤ t.length → j < i → ((onlU t k i).getD j default).w = ⟨k.getD j 0, k.getD j 0⟩
  | 0, _, _, h => absurd h (Nat.not_lt_zero _)
  | i + 1, j, hi, h => by
    rw [onlU, onl, set_at (by rw [onlU_len]; omega)]
    by_cases e : j = i
    · subst e; rw [if_pos rfl]
    · rw [if_neg e]; exact onlU_w (by omega) (by omega)
theorem onlU_tru (hp : PartF t (fu k)) : TruF (onlU t k t.length) (fu k) := by
  refine ⟨(onlU_par (Nat.le_refl _)).2 hp, fun i hi => ?_⟩
  rw [onlU_len] at hi
  rw [onlU_w (Nat.le_refl _) hi]
  exact ⟨Int.le_refl _, Int.le_refl _⟩
theorem cD_zero (T : TW t) : Lst t (cD t) = some 0 ↔ is1 t = true := by
  rw [is1_iff T.toTG]
  constructor
  · intro h
    obtain ⟨u, h1, h2⟩ := (LstD T.toTG).1 0 h
    exact ⟨u, tru_par.2 ⟨h1, h2.symm⟩⟩
  · rintro ⟨u, hu⟩
    obtain ⟨h1, h2⟩ := tru_par.1 hu
    obtain ⟨x, hx, hle⟩ := (LstD T.toTG).2 0 ⟨u, h1, h2.symm⟩
    have := (cD_rng T hx).1
    rw [hx]; congr 1; omega
set_option maxHeartbeats 4000000 in
theorem s6 (H0 : TbIn t v) (V : IsSl 1 intL l w) : Iso E 6 [v, w] false = some (Bo true) := by
  have g0 := fun st => s16 H0 st
  refine Iso_of (es _ _ _ _) e6 ?_
  simp only [f6]
  cases hv : tval t
  case false => simp (disch := first | assumption | omega | (simp only [az]; done)) only [ru, eq_self, if_true, if_false, BEq.rfl, binI, AO.row?, splice, fillL, mmAll, loadV, storeV, zeros, Am.rowAt, Am.part, addOff, Nat.reduceAdd, Nat.reduceMul, Nat.reduceLeDiff, Nat.reduceSub, Nat.reduceLT, Int.reduceEq, Int.reduceLT, Int.reduceLE, Int.reduceGT, Int.reduceGE, Int.reduceAdd, Int.reduceSub, Int.reduceMul, Int.reduceNeg, Int.reduceToNat, reduceCtorEq, reduceIte, lenV_sl H0.i, elem_pt H0.i, view_sl H0.i, scalar_sl H0.i, cells_sl H0.i, pure_sl H0.i, Int.toNat_natCast, lenV_sl V, elem_in V, view_sl V, scalar_sl V, cells_sl V, pure_sl V, Int.toNat_natCast, g0, hv, gUn, s18, Bool.false_and]
  have T := tval_W hv
  have n8 := T.n
  have n40 : t.length ≤ 40 := by omega
  have H : TbOk t v := ⟨H0.i, by omega⟩
  have g0 : ∀ st, Iso E 16 [v] st = some (Bo true) := fun st => by rw [g0, hv, decide_eq_true n40]; rfl
  by_cases hl : (l.length : Int) > 40
  · simp (disch := first | assumption | omega | (simp only [az]; done)) only [ru, eq_self, if_true, if_false, BEq.rfl, binI, AO.row?, splice, fillL, mmAll, loadV, storeV, zeros, Am.rowAt, Am.part, addOff, Nat.reduceAdd, Nat.reduceMul, Nat.reduceLeDiff, Nat.reduceSub, Nat.reduceLT, Int.reduceEq, Int.reduceLT, Int.reduceLE, Int.reduceGT, Int.reduceGE, Int.reduceAdd, Int.reduceSub, Int.reduceMul, Int.reduceNeg, Int.reduceToNat, reduceCtorEq, reduceIte, lenV_sl H0.i, elem_pt H0.i, view_sl H0.i, scalar_sl H0.i, cells_sl H0.i, pure_sl H0.i, Int.toNat_natCast, lenV_sl V, elem_in V, view_sl V, scalar_sl V, cells_sl V, pure_sl V, Int.toNat_natCast, g0, hl, gUn, s18, decide_true, Bool.not_true]
  have a1 := fun st => s38 H hv st
  have a2 := s39 H
  have a3 := fun st => s34 H T st
  have a4 := fun st => s40 H V st
  simp only [fixR, hv, if_true] at a2
  unfold chaN at a1
  have z := cD_zero T
  cases hm : Lst t (cD t) with
  | none =>
    have h1 : is1 t = false := by rw [Bool.eq_false_iff]; intro h; rw [z.2 h] at hm; cases hm
    have hp : parB t l = false := by
      rw [Bool.eq_false_iff]; intro h
      obtain ⟨x, hx, _⟩ := (LstD T.toTG).2 _ ⟨_, (parB_iff.1 h).2, rfl⟩
      rw [hx] at hm; cases hm
    simp only [hm, Option.getD_none] at a1 a2
    simp (disch := first | assumption | omega | (simp only [az]; done)) only [ru, eq_self, if_true, if_false, BEq.rfl, binI, AO.row?, splice, fillL, mmAll, loadV, storeV, zeros, Am.rowAt, Am.part, addOff, Nat.reduceAdd, Nat.reduceMul, Nat.reduceLeDiff, Nat.reduceSub, Nat.reduceLT, Int.reduceEq, Int.reduceLT, Int.reduceLE, Int.reduceGT, Int.reduceGE, Int.reduceAdd, Int.reduceSub, Int.reduceMul, Int.reduceNeg, Int.reduceToNat, reduceCtorEq, reduceIte, lenV_sl H0.i, elem_pt H0.i, view_sl H0.i, scalar_sl H0.i, cells_sl H0.i, pure_sl H0.i, Int.toNat_natCast, lenV_sl V, elem_in V, view_sl V, scalar_sl V, cells_sl V, pure_sl V, Int.toNat_natCast, g0, hl, a1, a2, a3, h1, a4, hp, s33, gUn, s18, decide_true, decide_false, Bool.not_true, Bool.not_false, Bool.or_true, Bool.or_false, Bool.true_or, bne_self_eq_false]
    done
  | some m =>
    have r := cD_rng T hm
    have r1 : m ≥ 0 := r.1
    have h1 : is1 t = decide (m = 0) := by
      rw [Bool.eq_iff_iff, ← z, hm, decide_eq_true_eq, Option.some.injEq]
    simp only [hm, Option.getD_some] at a1 a2
    obtain ⟨p1, p2⟩ := fix_part T.toTG hm
    have mn := fun h1 h2 h3 => fix_min T.toTG hm (l := l) h1 h2 h3
    have FV := resL_is (fixV t)
    have fl : (fixV t).length = t.length := fixU_len
    obtain ⟨F, hF⟩ : ∃ F, F = fixV t := ⟨_, rfl⟩
    rw [← hF] at FV p1 p2 fl a2
    simp only [← hF] at mn
    obtain ⟨fv, hfv⟩ : ∃ fv, fv = resL F := ⟨_, rfl⟩
    rw [← hfv] at FV a2
    have fl' : ((F.length : Int) = t.length) := by omega
    have a5 := fun st => s40 H FV st
    have pF : parB t F = true := parB_iff.2 ⟨fl, p1⟩
    have a6 := fun st => s41 H T FV fl (fun i hi => (p1 i hi).1) st
    rw [p2] at a6
    have a7 := fun st => s42 H st
    have oi : slV 6 Pt.e t = slV 6 Pt.e (onlU t F 0) := rfl
    obtain ⟨o0, ho0⟩ : ∃ o0, o0 = slV 6 Pt.e t := ⟨_, rfl⟩
    rw [← ho0] at a7 oi
    have eqm : ∀ b : Bool, (b == b) = true := fun b => by cases b <;> rfl
    have bnm : ∀ b : Bool, (b != b) = false := fun b => by cases b <;> rfl
    simp (disch := first | assumption | omega | (simp only [az]; done)) only [ru, eq_self, if_true, if_false, BEq.rfl, binI, AO.row?, splice, fillL, mmAll, loadV, storeV, zeros, Am.rowAt, Am.part, addOff, Nat.reduceAdd, Nat.reduceMul, Nat.reduceLeDiff, Nat.reduceSub, Nat.reduceLT, Int.reduceEq, Int.reduceLT, Int.reduceLE, Int.reduceGT, Int.reduceGE, Int.reduceAdd, Int.reduceSub, Int.reduceMul, Int.reduceNeg, Int.reduceToNat, reduceCtorEq, reduceIte, lenV_sl H0.i, elem_pt H0.i, view_sl H0.i, scalar_sl H0.i, cells_sl H0.i, pure_sl H0.i, Int.toNat_natCast, lenV_sl V, elem_in V, view_sl V, scalar_sl V, cells_sl V, pure_sl V, Int.toNat_natCast, lenV_sl FV, elem_in FV, view_sl FV, scalar_sl FV, cells_sl FV, pure_sl FV, Int.toNat_natCast, g0, hl, a1, a2, a3, h1, r1, a5, pF, a6, a7, fl', s33, bnm, gUn, s18, decide_true, decide_false, Bool.not_true, Bool.not_false, Bool.or_true, Bool.or_false, Bool.true_or, bne_self_eq_false]
    refine G_loop_ind (fun m' ts h mk => ∃ i : Nat, i ≤ t.length ∧ m' = t.length - i ∧ ts.length = 147 ∧ ts.getD 0 .undef = v ∧ ts.getD 1 .undef = w ∧ ts.getD 5 .undef = I m ∧ ts.getD 7 .undef = fv ∧ ts.getD 8 .undef = I 0 ∧ ts.getD 9 .undef = slV 6 Pt.e (onlU t F i) ∧ ts.getD 10 .undef = I i ∧ h = [] ∧ mk = []) ?_ _ _ _ _ ⟨0, Nat.zero_le _, rfl, rfl, rfl, rfl, rfl, rfl, rfl, oi, rfl, rfl, rfl⟩
    rintro m' ts h mk ih ⟨i, hi, rfl, hl', q0, q1, q5, q7, q8, q9, q10, rfl, rfl⟩
    rw [lit_all hl']
    simp only [lit0, litS, Nat.reduceAdd, q0, q1, q5, q7, q8, q9, q10]
    simp (disch := first | assumption | omega | (simp only [az]; done)) only [ru, eq_self, if_true, if_false, BEq.rfl, binI, AO.row?, splice, fillL, mmAll, loadV, storeV, zeros, Am.rowAt, Am.part, addOff, Nat.reduceAdd, Nat.reduceMul, Nat.reduceLeDiff, Nat.reduceSub, Nat.reduceLT, Int.reduceEq, Int.reduceLT, Int.reduceLE, Int.reduceGT, Int.reduceGE, Int.reduceAdd, Int.reduceSub, Int.reduceMul, Int.reduceNeg, Int.reduceToNat, reduceCtorEq, reduceIte, lenV_sl H.i, elem_pt H.i, view_sl H.i, scalar_sl H.i, cells_sl H.i, pure_sl H.i, Int.toNat_natCast]
    have OV := onlU_val hv (k := F) (fun i hi => (p1 i hi).1) hi
    have OT : TbOk (onlU t F i) (slV 6 Pt.e (onlU t F i)) := ⟨slV_is, by rw [onlU_len]; omega⟩
    by_cases hlt : (i : Int) < t.length
    case pos =>
      have hiF : (i : Int) < F.length := by omega
      have b1 := s36 OT (p := i) (by rw [onlU_len]; omega) (F.getD i 0)
      have e : onl (onlU t F i) i (F.getD i 0) = onlU t F (i + 1) := rfl
      rw [e] at b1
      obtain ⟨o1, ho1⟩ : ∃ o1, o1 = slV 6 Pt.e (onlU t F i) := ⟨_, rfl⟩
      obtain ⟨o2, ho2⟩ : ∃ o2, o2 = slV 6 Pt.e (onlU t F (i + 1)) := ⟨_, rfl⟩
      rw [← ho1] at OT b1
      rw [← ho2] at b1
      have OT2 : IsSl 6 Pt.e (onlU t F (i + 1)) o2 := by rw [ho2]; exact slV_is
      simp (disch := first | assumption | omega | (simp only [az]; done)) only [ru, eq_self, if_true, if_false, BEq.rfl, binI, AO.row?, splice, fillL, mmAll, loadV, storeV, zeros, Am.rowAt, Am.part, addOff, Nat.reduceAdd, Nat.reduceMul, Nat.reduceLeDiff, Nat.reduceSub, Nat.reduceLT, Int.reduceEq, Int.reduceLT, Int.reduceLE, Int.reduceGT, Int.reduceGE, Int.reduceAdd, Int.reduceSub, Int.reduceMul, Int.reduceNeg, Int.reduceToNat, reduceCtorEq, reduceIte, lenV_sl H.i, elem_pt H.i, view_sl H.i, scalar_sl H.i, cells_sl H.i, pure_sl H.i, Int.toNat_natCast, lenV_sl OT.i, elem_pt OT.i, view_sl OT.i, scalar_sl OT.i, cells_sl OT.i, pure_sl OT.i, Int.toNat_natCast, lenV_sl FV, elem_in FV, view_sl FV, scalar_sl FV, cells_sl FV, pure_sl FV, Int.toNat_natCast, hlt, hiF, b1, ← ho1]
      exact ih (t.length - (i + 1)) _ _ _ (by omega) ⟨i + 1, by omega, rfl, rfl, rfl, rfl, rfl, rfl, rfl, ho2, rfl, rfl, rfl⟩
    obtain rfl : i = t.length := by omega
    have tr := onlU_tru p1
    have OW := tval_W OV
    obtain ⟨w1, h1', A1, fr1, R1⟩ := cpyV (eb := 8) (lim := 0) (h := ([] : List AO)) FV intE intSc (by omega) (by omega) (Nat.zero_le _)
    simp only [apN, len0, List.nil_append, List.length_nil] at A1
    have vw1 := R1.view intE intIv (st := false) (k := 7)
    have sc1 := R1.sc
    have FW : IsSl 1 intL F (slV 1 intL F) := slV_is
    have b1 := fun st => s21 OT FW (by omega) st
    have b2 := fun st => s43 OT st
    have tB : truB (onlU t F t.length) F = true := (truB_iff OW).2 ⟨by rw [onlU_len]; exact fl, tr⟩
    simp only [holR, chaR, OV, if_true, tB, (cD_zero OW).2 ((is1_iff OW.toTG).2 ⟨_, tr⟩)] at b1 b2
    obtain ⟨o1, ho1⟩ : ∃ o1, o1 = slV 6 Pt.e (onlU t F t.length) := ⟨_, rfl⟩
    obtain ⟨fw, hfw⟩ : ∃ fw, fw = slV 1 intL F := ⟨_, rfl⟩
    rw [← ho1] at OT b1 b2
    rw [← hfw] at FW b1 vw1
    cases hp : parB t l
    · simp (disch := first | assumption | omega | (simp only [az]; done)) only [ru, eq_self, if_true, if_false, BEq.rfl, binI, AO.row?, splice, fillL, mmAll, loadV, storeV, zeros, Am.rowAt, Am.part, addOff, Nat.reduceAdd, Nat.reduceMul, Nat.reduceLeDiff, Nat.reduceSub, Nat.reduceLT, Int.reduceEq, Int.reduceLT, Int.reduceLE, Int.reduceGT, Int.reduceGE, Int.reduceAdd, Int.reduceSub, Int.reduceMul, Int.reduceNeg, Int.reduceToNat, reduceCtorEq, reduceIte, lenV_sl H.i, elem_pt H.i, view_sl H.i, scalar_sl H.i, cells_sl H.i, pure_sl H.i, Int.toNat_natCast, lenV_sl OT.i, elem_pt OT.i, view_sl OT.i, scalar_sl OT.i, cells_sl OT.i, pure_sl OT.i, Int.toNat_natCast, lenV_sl V, elem_in V, view_sl V, scalar_sl V, cells_sl V, pure_sl V, Int.toNat_natCast, lenV_sl FV, elem_in FV, view_sl FV, scalar_sl FV, cells_sl FV, pure_sl FV, Int.toNat_natCast, lenV_sl FW, elem_in FW, view_sl FW, scalar_sl FW, cells_sl FW, pure_sl FW, Int.toNat_natCast, hlt, ← ho1, A1, vw1, sc1.1, sc1.2.1, b1, b2, a4, hp, s18, gUn, decide_true, decide_false, Bool.not_true, Bool.not_false, Bool.or_true, Bool.or_false, Bool.true_or, bne_self_eq_false]
      done
    obtain ⟨l1, l2⟩ := parB_iff.1 hp
    have b3 := fun st => s41 H T V l1 (fun i hi => (l2 i hi).1) st
    obtain ⟨x, hx, hle⟩ := (LstD T.toTG).2 _ ⟨_, l2, rfl⟩
    rw [hm] at hx; cases hx
    have b4 := fun st => s44 V FV (by omega) (by omega) st
    obtain ⟨c, hc⟩ : ∃ c, c = chg t (fu l) t.length := ⟨_, rfl⟩
    rw [← hc] at hle
    simp only [← hc] at b3
    by_cases c1 : c > m
    · simp (disch := first | assumption | omega | (simp only [az]; done)) only [ru, eq_self, if_true, if_false, BEq.rfl, binI, AO.row?, splice, fillL, mmAll, loadV, storeV, zeros, Am.rowAt, Am.part, addOff, Nat.reduceAdd, Nat.reduceMul, Nat.reduceLeDiff, Nat.reduceSub, Nat.reduceLT, Int.reduceEq, Int.reduceLT, Int.reduceLE, Int.reduceGT, Int.reduceGE, Int.reduceAdd, Int.reduceSub, Int.reduceMul, Int.reduceNeg, Int.reduceToNat, reduceCtorEq, reduceIte, lenV_sl H.i, elem_pt H.i, view_sl H.i, scalar_sl H.i, cells_sl H.i, pure_sl H.i, Int.toNat_natCast, lenV_sl OT.i, elem_pt OT.i, view_sl OT.i, scalar_sl OT.i, cells_sl OT.i, pure_sl OT.i, Int.toNat_natCast, lenV_sl V, elem_in V, view_sl V, scalar_sl V, cells_sl V, pure_sl V, Int.toNat_natCast, lenV_sl FV, elem_in FV, view_sl FV, scalar_sl FV, cells_sl FV, pure_sl FV, Int.toNat_natCast, lenV_sl FW, elem_in FW, view_sl FW, scalar_sl FW, cells_sl FW, pure_sl FW, Int.toNat_natCast, hlt, ← ho1, A1, vw1, sc1.1, sc1.2.1, b1, b2, a4, hp, b3, hle, c1, s18, gUn, decide_true, decide_false, Bool.not_true, Bool.not_false, Bool.or_true, Bool.or_false, Bool.true_or, bne_self_eq_false]
      done
    · have c2 := mn l1 l2 (by omega)
      simp (disch := first | assumption | omega | (simp only [az]; done)) only [ru, eq_self, if_true, if_false, BEq.rfl, binI, AO.row?, splice, fillL, mmAll, loadV, storeV, zeros, Am.rowAt, Am.part, addOff, Nat.reduceAdd, Nat.reduceMul, Nat.reduceLeDiff, Nat.reduceSub, Nat.reduceLT, Int.reduceEq, Int.reduceLT, Int.reduceLE, Int.reduceGT, Int.reduceGE, Int.reduceAdd, Int.reduceSub, Int.reduceMul, Int.reduceNeg, Int.reduceToNat, reduceCtorEq, reduceIte, lenV_sl H.i, elem_pt H.i, view_sl H.i, scalar_sl H.i, cells_sl H.i, pure_sl H.i, Int.toNat_natCast, lenV_sl OT.i, elem_pt OT.i, view_sl OT.i, scalar_sl OT.i, cells_sl OT.i, pure_sl OT.i, Int.toNat_natCast, lenV_sl V, elem_in V, view_sl V, scalar_sl V, cells_sl V, pure_sl V, Int.toNat_natCast, lenV_sl FV, elem_in FV, view_sl FV, scalar_sl FV, cells_sl FV, pure_sl FV, Int.toNat_natCast, lenV_sl FW, elem_in FW, view_sl FW, scalar_sl FW, cells_sl FW, pure_sl FW, Int.toNat_natCast, hlt, ← ho1, A1, vw1, sc1.1, sc1.2.1, b1, b2, a4, hp, b3, hle, c1, b4, c2, s18, gUn, decide_true, decide_false, Bool.not_true, Bool.not_false, Bool.or_true, Bool.or_false, Bool.true_or, bne_self_eq_false]
      done
end
end Go.Proofs.Ytkmcbiimlnphmaa.S
