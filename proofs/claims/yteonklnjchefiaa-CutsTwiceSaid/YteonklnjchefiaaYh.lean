/-
Helpers of several laws.
-/
import Derived.Test.YteonklnjchefiaaS3
namespace Go.Proofs.Yteonklnjchefiaa.S
open Go Go.Am Go.Proofs.Yteonklnjchefiaa.T
set_option maxRecDepth 100000
set_option linter.unusedSimpArgs false
set_option linter.unusedVariables false

theorem ear_drop {l m : List Int} {i : Nat} (hi : i < l.length) (hj : i < m.length) : ear (l.drop i) (m.drop i) = if l.getD i 0 ≠ m.getD i 0 then decide (l.getD i 0 < m.getD i 0) else ear (l.drop (i + 1)) (m.drop (i + 1)) := by
  rw [List.drop_eq_getElem_cons hi, List.drop_eq_getElem_cons hj]
  simp only [ear, List.getD_eq_getElem?_getD, List.getElem?_eq_getElem hi, List.getElem?_eq_getElem hj, Option.getD_some]
theorem s44 {l m : List Int} {u v : AV} (U : IsSl 1 intL l u) (V : IsSl 1 intL m v) (hl : l.length ≤ 1000) (hm : m.length ≤ 1000) (st : Bool) : Iso E 44 [u, v] st = some (Bo (ear l m)) := by
  refine Iso_of (es _ _ _ _) e44 ?_
  simp only [f44]
  simp (disch := first | assumption | omega | (simp only [az]; done)) only [ru, eq_self, if_true, if_false, BEq.rfl, binI, AO.row?, splice, fillL, mmAll, loadV, storeV, zeros, Am.rowAt, Am.part, addOff, Nat.reduceAdd, Nat.reduceMul, Nat.reduceLeDiff, Nat.reduceSub, Nat.reduceLT, Int.reduceEq, Int.reduceLT, Int.reduceLE, Int.reduceGT, Int.reduceGE, Int.reduceAdd, Int.reduceSub, Int.reduceMul, Int.reduceNeg, Int.reduceToNat, reduceCtorEq, reduceIte]
  refine G_loop_ind (fun n ts h mk => ∃ i : Nat, i ≤ l.length ∧ i ≤ m.length ∧ n = l.length - i ∧ ear l m = ear (l.drop i) (m.drop i) ∧ ts.length = 36 ∧ ts.getD 0 .undef = u ∧ ts.getD 1 .undef = v ∧ ts.getD 5 .undef = I i ∧ h = [] ∧ mk = []) ?_ _ _ _ _ ⟨0, Nat.zero_le _, Nat.zero_le _, rfl, rfl, rfl, rfl, rfl, rfl, rfl, rfl⟩
  rintro n ts h mk ih ⟨i, hi, hi2, rfl, he, hl', q0, q1, q5, rfl, rfl⟩
  rw [lit_all hl']
  simp only [lit0, litS, Nat.reduceAdd, q0, q1, q5]
  by_cases h1 : i < l.length
  case neg =>
    have h1' : ¬ (i : Int) < l.length := by omega
    have ev : ear l m = false := by rw [he, List.drop_eq_nil_of_le (by omega)]; simp [ear]
    simp (disch := first | assumption | omega | (simp only [az]; done)) only [ru, eq_self, if_true, if_false, BEq.rfl, binI, AO.row?, splice, fillL, mmAll, loadV, storeV, zeros, Am.rowAt, Am.part, addOff, Nat.reduceAdd, Nat.reduceMul, Nat.reduceLeDiff, Nat.reduceSub, Nat.reduceLT, Int.reduceEq, Int.reduceLT, Int.reduceLE, Int.reduceGT, Int.reduceGE, Int.reduceAdd, Int.reduceSub, Int.reduceMul, Int.reduceNeg, Int.reduceToNat, reduceCtorEq, reduceIte, lenV_sl U, elem_in U, view_sl U, scalar_sl U, cells_sl U, pure_sl U, Int.toNat_natCast, lenV_sl V, elem_in V, view_sl V, scalar_sl V, cells_sl V, pure_sl V, Int.toNat_natCast, h1', gUn, ev, decide_false]
  by_cases h2 : i < m.length
  case neg =>
    have h1' : (i : Int) < l.length := by omega
    have h2' : ¬ (i : Int) < m.length := by omega
    have ev : ear l m = false := by
      rw [he, List.drop_eq_nil_of_le (show m.length ≤ i by omega)]
      cases l.drop i <;> simp [ear]
    simp (disch := first | assumption | omega | (simp only [az]; done)) only [ru, eq_self, if_true, if_false, BEq.rfl, binI, AO.row?, splice, fillL, mmAll, loadV, storeV, zeros, Am.rowAt, Am.part, addOff, Nat.reduceAdd, Nat.reduceMul, Nat.reduceLeDiff, Nat.reduceSub, Nat.reduceLT, Int.reduceEq, Int.reduceLT, Int.reduceLE, Int.reduceGT, Int.reduceGE, Int.reduceAdd, Int.reduceSub, Int.reduceMul, Int.reduceNeg, Int.reduceToNat, reduceCtorEq, reduceIte, lenV_sl U, elem_in U, view_sl U, scalar_sl U, cells_sl U, pure_sl U, Int.toNat_natCast, lenV_sl V, elem_in V, view_sl V, scalar_sl V, cells_sl V, pure_sl V, Int.toNat_natCast, h1', h2', gUn, ev, decide_false, decide_true]
  have h1' : (i : Int) < l.length := by omega
  have h2' : (i : Int) < m.length := by omega
  rw [ear_drop h1 h2] at he
  by_cases hc : l.getD i 0 = m.getD i 0
  · rw [if_neg (fun h => h hc)] at he
    simp (disch := first | assumption | omega | (simp only [az]; done)) only [ru, eq_self, if_true, if_false, BEq.rfl, binI, AO.row?, splice, fillL, mmAll, loadV, storeV, zeros, Am.rowAt, Am.part, addOff, Nat.reduceAdd, Nat.reduceMul, Nat.reduceLeDiff, Nat.reduceSub, Nat.reduceLT, Int.reduceEq, Int.reduceLT, Int.reduceLE, Int.reduceGT, Int.reduceGE, Int.reduceAdd, Int.reduceSub, Int.reduceMul, Int.reduceNeg, Int.reduceToNat, reduceCtorEq, reduceIte, lenV_sl U, elem_in U, view_sl U, scalar_sl U, cells_sl U, pure_sl U, Int.toNat_natCast, lenV_sl V, elem_in V, view_sl V, scalar_sl V, cells_sl V, pure_sl V, Int.toNat_natCast, h1', h2', hc, decide_true, Bool.not_true]
    exact ih (l.length - (i + 1)) _ _ _ (by omega) ⟨i + 1, by omega, by omega, rfl, he, rfl, rfl, rfl, rfl, rfl, rfl⟩
  · rw [if_pos hc] at he
    simp (disch := first | assumption | omega | (simp only [az]; done)) only [ru, eq_self, if_true, if_false, BEq.rfl, binI, AO.row?, splice, fillL, mmAll, loadV, storeV, zeros, Am.rowAt, Am.part, addOff, Nat.reduceAdd, Nat.reduceMul, Nat.reduceLeDiff, Nat.reduceSub, Nat.reduceLT, Int.reduceEq, Int.reduceLT, Int.reduceLE, Int.reduceGT, Int.reduceGE, Int.reduceAdd, Int.reduceSub, Int.reduceMul, Int.reduceNeg, Int.reduceToNat, reduceCtorEq, reduceIte, lenV_sl U, elem_in U, view_sl U, scalar_sl U, cells_sl U, pure_sl U, Int.toNat_natCast, lenV_sl V, elem_in V, view_sl V, scalar_sl V, cells_sl V, pure_sl V, Int.toNat_natCast, h1', h2', hc, decide_true, decide_false, Bool.not_false, he]

theorem lin_rA {u : Nat → Int} {p : Nat} : ∀ {k : Nat}, lin (rA p) u k = if p < k then u p else 0
  | 0 => by simp [lin]
  | k + 1 => by
    simp only [lin, lin_rA (k := k), rA]
    by_cases e : k = p
    · subst e; rw [if_neg (by omega), if_pos rfl, if_pos (by omega)]; omega
    · rw [if_neg e]
      by_cases h : p < k
      · rw [if_pos h, if_pos (by omega)]; omega
      · rw [if_neg h, if_neg (by omega)]; omega
theorem par_same {a b : List Pt} (hl : a.length = b.length) (hc : ∀ i, canC a i = canC b i) (h : ∀ j, (a.getD j default).of = (b.getD j default).of ∧ (a.getD j default).s = (b.getD j default).s) {u : Nat → Int} : PartF a u ↔ PartF b u := by
  have hw : ∀ i : Nat, wst a i = wst b i := fun i => by unfold wst; rw [hc, (h i).2]
  have hp : ∀ i, pcs a u i a.length = pcs b u i b.length := fun i => by rw [hl]; exact pcs_of fun j => (h j).1
  constructor
  · intro h1 i hi
    have := h1 i (by omega); rw [hw, hp] at this; exact this
  · intro h1 i hi
    have := h1 i (by omega); rw [hw, hp]; exact this
section
variable {t : List Pt} {v w : AV} {l : List Int}
theorem cD_rng (T : TW t) {m : Int} (hm : Lst t (cD t) = some m) : 0 ≤ m ∧ m ≤ 240 := by
  obtain ⟨u, hu, e⟩ := (LstD T.toTG).1 m hm
  have h1 := chg_le T (fun i hi => (hu i hi).1) (Nat.le_refl t.length)
  have h2 := chg_nn (t := t) (u := u) (k := t.length)
  have := T.n
  omega
def chaN (t : List Pt) : Int := (Lst t (cD t)).getD (-1)
theorem s38 (H : TbOk t v) (hv : tval t = true) (st : Bool) : Iso E 38 [v] st = some (.tup [I (chaN t), Bo true]) := by
  have a := fun st => s43 H st
  refine Iso_of (es _ _ _ _) e38 ?_
  simp only [f38]
  simp only [chaR, hv, if_true] at a
  unfold chaN
  cases hm : Lst t (cD t) with
  | none =>
    simp only [hm] at a
    simp (disch := first | assumption | omega | (simp only [az]; done)) only [ru, eq_self, if_true, if_false, BEq.rfl, binI, AO.row?, splice, fillL, mmAll, loadV, storeV, zeros, Am.rowAt, Am.part, addOff, Nat.reduceAdd, Nat.reduceMul, Nat.reduceLeDiff, Nat.reduceSub, Nat.reduceLT, Int.reduceEq, Int.reduceLT, Int.reduceLE, Int.reduceGT, Int.reduceGE, Int.reduceAdd, Int.reduceSub, Int.reduceMul, Int.reduceNeg, Int.reduceToNat, reduceCtorEq, reduceIte, lenV_sl H.i, elem_pt H.i, view_sl H.i, scalar_sl H.i, cells_sl H.i, pure_sl H.i, Int.toNat_natCast, a, gUn, decide_true]
    done
  | some m =>
    have r := cD_rng (tval_W hv) hm
    have r1 : m ≥ 0 := r.1
    have r2 := r.2
    simp only [hm] at a
    simp (disch := first | assumption | omega | (simp only [az]; done)) only [ru, eq_self, if_true, if_false, BEq.rfl, binI, AO.row?, splice, fillL, mmAll, loadV, storeV, zeros, Am.rowAt, Am.part, addOff, Nat.reduceAdd, Nat.reduceMul, Nat.reduceLeDiff, Nat.reduceSub, Nat.reduceLT, Int.reduceEq, Int.reduceLT, Int.reduceLE, Int.reduceGT, Int.reduceGE, Int.reduceAdd, Int.reduceSub, Int.reduceMul, Int.reduceNeg, Int.reduceToNat, reduceCtorEq, reduceIte, lenV_sl H.i, elem_pt H.i, view_sl H.i, scalar_sl H.i, cells_sl H.i, pure_sl H.i, Int.toNat_natCast, a, gUn, r1, r2, decide_true]
    done
theorem onl_len {p : Nat} {n : Int} : (onl t p n).length = t.length := by simp [onl]
theorem onl_par {p : Nat} (hp : p < t.length) {n : Int} {u : Nat → Int} : PartF (onl t p n) u ↔ PartF t u :=
  par_same onl_len (set_can hp rfl) fun j => by
    unfold onl; rw [set_at hp]; split
    · rename_i e; subst e; exact ⟨rfl, rfl⟩
    · exact ⟨rfl, rfl⟩
theorem onl_tru {p : Nat} (hp : p < t.length) {n : Int} (hn : (t.getD p default).w.lo ≤ n ∧ n ≤ (t.getD p default).w.hi) {u : Nat → Int} : TruF (onl t p n) u ↔ TruF t u ∧ u p = n := by
  unfold TruF
  rw [onl_par hp, onl_len]
  constructor
  · rintro ⟨h1, h2⟩
    have h3 := h2 p hp
    unfold onl at h3
    rw [set_at hp, if_pos rfl] at h3
    have h3' : n ≤ u p ∧ u p ≤ n := h3
    refine ⟨⟨h1, fun i hi => ?_⟩, by omega⟩
    by_cases e : i = p
    · subst e; omega
    · have h4 := h2 i hi
      unfold onl at h4
      rw [set_at hp, if_neg e] at h4; exact h4
  · rintro ⟨⟨h1, h2⟩, h3⟩
    refine ⟨h1, fun i hi => ?_⟩
    unfold onl
    rw [set_at hp]
    split
    · rename_i e; subst e; show n ≤ u i ∧ u i ≤ n; omega
    · exact h2 i hi
theorem onl_val (hv : tval t = true) {p : Nat} (hp : p < t.length) {n : Int} (hn : 0 ≤ n ∧ n ≤ 30) : tval (onl t p n) = true := by
  obtain ⟨T, h9⟩ := tval_iff.1 hv
  refine tval_iff.2 ⟨set_W T hp rfl (show 0 ≤ n ∧ n ≤ n ∧ n ≤ 30 by omega) (T.s p hp) (T.p p hp), fun i hi => ?_⟩
  rw [onl_len] at hi
  unfold onl
  rw [set_at hp]; split
  · exact h9 p hp
  · exact h9 i hi
theorem wgt_in (hv : tval t = true) (h1 : is1 t = true) {p : Nat} (hp : p < t.length) : insB ⟨loV t (rA p), hiV t (rA p)⟩ (t.getD p default).w = true := by
  have T := tval_W hv
  have ll : ∀ u, lin (rA p) u t.length = u p := fun u => by rw [lin_rA, if_pos hp]
  obtain ⟨⟨u1, a1, b1⟩, c1⟩ := loV_spec (r := rA p) T.toTG h1
  obtain ⟨⟨u2, a2, b2⟩, c2⟩ := hiV_spec (r := rA p) T.toTG h1
  have x1 := a1.2 p hp; have x2 := a2.2 p hp
  have x3 := c1 u2 a2
  rw [ll] at b1 b2 x3
  exact insB_iff.2 ⟨by show _ ≤ loV t (rA p); omega, by show loV t (rA p) ≤ hiV t (rA p); omega, by show hiV t (rA p) ≤ _; omega⟩
end
end Go.Proofs.Yteonklnjchefiaa.S

