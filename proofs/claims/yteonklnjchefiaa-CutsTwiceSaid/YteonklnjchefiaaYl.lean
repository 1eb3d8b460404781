/-
CutsEach: each truth (mathematics, and whether both lists are cuts).
-/
import Derived.Test.YteonklnjchefiaaYn
namespace Go.Proofs.Yteonklnjchefiaa.S
open Go Go.Am Go.Proofs.Yteonklnjchefiaa.T
set_option maxRecDepth 100000
set_option linter.unusedSimpArgs false
set_option linter.unusedVariables false

theorem lin_sub {r s u : Nat → Int} : ∀ {k : Nat}, lin (fun i => r i - s i) u k = lin r u k - lin s u k
  | 0 => rfl
  | k + 1 => by simp only [lin, lin_sub (k := k)]; rw [Int.sub_mul]; omega
section
variable {t : List Pt} {v w : AV} {l : List Int}
theorem lin_rL (T : TG t) {p : Nat} (hp : p < t.length) {u : Nat → Int} : ∀ {k : Nat}, k ≤ t.length → lin (rL t p) u k = (if p < k then u p else 0) - pcs t u p k
  | 0, _ => by simp [lin, pcs]
  | k + 1, h => by
    have o1 := (T.of k (by omega)).2
    simp only [lin, pcs, lin_rL T hp (k := k) (by omega)]
    by_cases e : (t.getD k default).of = p
    · have e1 : rL t p k = -1 := if_pos ⟨by omega, e⟩
      rw [e1, if_pos e, if_pos (show p < k by omega), if_pos (show p < k + 1 by omega)]; omega
    · have e1 : rL t p k = rA p k := if_neg (fun hh => e hh.2)
      rw [e1, if_neg e]
      by_cases e2 : k = p
      · have e3 : rA p k = 1 := if_pos e2
        rw [e3, if_neg (show ¬ p < k by omega), if_pos (show p < k + 1 by omega), e2]; omega
      · have e3 : rA p k = 0 := if_neg e2
        rw [e3]
        by_cases h3 : p < k
        · rw [if_pos h3, if_pos (show p < k + 1 by omega)]; omega
        · rw [if_neg h3, if_neg (show ¬ p < k + 1 by omega)]; omega
theorem lin_rW_succ {u : Nat → Int} {k : Nat} (h : k < t.length) : lin (rW t) u (k + 1) = lin (rW t) u k + if (t.getD k default).of = -1 then u k else 0 := by
  simp only [lin, rW]
  by_cases e : (t.getD k default).of = -1
  · rw [if_pos ⟨h, e⟩, if_pos e]; omega
  · rw [if_neg (fun h => e h.2), if_neg e]; omega
theorem in_ask (T : TW t) (h1 : is1 t = true) {u : Nat → Int} (hu : TruF t u) {r : Nat → Int} : inR (lin r u t.length) (loV t r) (hiV t r) = true :=
  inR_iff.2 ⟨(loV_spec T.toTG h1).2 u hu, (hiV_spec T.toTG h1).2 u hu⟩
theorem rnk_ok (T : TW t) (h1 : is1 t = true) {u : Nat → Int} (hu : TruF t u) {l m : List Int} : (rnk t l m = 1 ∧ lin (rS t l) u t.length > lin (rS t m) u t.length) ∨ (rnk t l m = 2 ∧ lin (rS t l) u t.length ≤ lin (rS t m) u t.length) ∨ rnk t l m = 3 := by
  have a := (loV_spec (r := fun i => rS t l i - rS t m i) T.toTG h1).2 u hu
  have b := (hiV_spec (r := fun i => rS t l i - rS t m i) T.toTG h1).2 u hu
  rw [lin_sub] at a b
  unfold rnk
  split
  · exact .inl ⟨rfl, by omega⟩
  · split
    · exact .inr (.inl ⟨rfl, by omega⟩)
    · exact .inr (.inr rfl)
set_option maxHeartbeats 1000000 in
theorem s26 (H : TbOk t v) (T : TG t) {l m : List Int} {x y : AV} (X : IsSl 1 intL l x) (Y : IsSl 1 intL m y) (st : Bool) : Iso E 26 [v, .agg [x, y]] st = some (Bo (decide (l.length ≤ 40) && decide (m.length ≤ 40) && cutB t l && cutB t m)) := by
  refine Iso_of (es _ _ _ _) e26 ?_
  simp only [f26]
  by_cases h1 : (l.length : Int) ≤ 40
  · by_cases h2 : (m.length : Int) ≤ 40
    · have a1 := fun st => s47 H T X (by omega) st
      have a2 := fun st => s47 H T Y (by omega) st
      have h1' : l.length ≤ 40 := by omega
      have h2' : m.length ≤ 40 := by omega
      cases hc : cutB t l
      · simp (disch := first | assumption | omega | (simp only [az]; done)) only [ru, eq_self, if_true, if_false, BEq.rfl, binI, AO.row?, splice, fillL, mmAll, loadV, storeV, zeros, Am.rowAt, Am.part, addOff, Nat.reduceAdd, Nat.reduceMul, Nat.reduceLeDiff, Nat.reduceSub, Nat.reduceLT, Int.reduceEq, Int.reduceLT, Int.reduceLE, Int.reduceGT, Int.reduceGE, Int.reduceAdd, Int.reduceSub, Int.reduceMul, Int.reduceNeg, Int.reduceToNat, reduceCtorEq, reduceIte, lenV_sl H.i, elem_pt H.i, view_sl H.i, scalar_sl H.i, cells_sl H.i, pure_sl H.i, Int.toNat_natCast, lenV_sl X, elem_in X, view_sl X, scalar_sl X, cells_sl X, pure_sl X, Int.toNat_natCast, lenV_sl Y, elem_in Y, view_sl Y, scalar_sl Y, cells_sl Y, pure_sl Y, Int.toNat_natCast, h1, h2, h1', h2', a1, hc, gUn, decide_true, decide_false, Bool.true_and, Bool.false_and, Bool.and_true]
      · simp (disch := first | assumption | omega | (simp only [az]; done)) only [ru, eq_self, if_true, if_false, BEq.rfl, binI, AO.row?, splice, fillL, mmAll, loadV, storeV, zeros, Am.rowAt, Am.part, addOff, Nat.reduceAdd, Nat.reduceMul, Nat.reduceLeDiff, Nat.reduceSub, Nat.reduceLT, Int.reduceEq, Int.reduceLT, Int.reduceLE, Int.reduceGT, Int.reduceGE, Int.reduceAdd, Int.reduceSub, Int.reduceMul, Int.reduceNeg, Int.reduceToNat, reduceCtorEq, reduceIte, lenV_sl H.i, elem_pt H.i, view_sl H.i, scalar_sl H.i, cells_sl H.i, pure_sl H.i, Int.toNat_natCast, lenV_sl X, elem_in X, view_sl X, scalar_sl X, cells_sl X, pure_sl X, Int.toNat_natCast, lenV_sl Y, elem_in Y, view_sl Y, scalar_sl Y, cells_sl Y, pure_sl Y, Int.toNat_natCast, h1, h2, h1', h2', a1, hc, a2, gUn, decide_true, decide_false, Bool.true_and, Bool.false_and, Bool.and_true]
    · have h1' : l.length ≤ 40 := by omega
      have h2' : ¬ m.length ≤ 40 := by omega
      simp (disch := first | assumption | omega | (simp only [az]; done)) only [ru, eq_self, if_true, if_false, BEq.rfl, binI, AO.row?, splice, fillL, mmAll, loadV, storeV, zeros, Am.rowAt, Am.part, addOff, Nat.reduceAdd, Nat.reduceMul, Nat.reduceLeDiff, Nat.reduceSub, Nat.reduceLT, Int.reduceEq, Int.reduceLT, Int.reduceLE, Int.reduceGT, Int.reduceGE, Int.reduceAdd, Int.reduceSub, Int.reduceMul, Int.reduceNeg, Int.reduceToNat, reduceCtorEq, reduceIte, lenV_sl H.i, elem_pt H.i, view_sl H.i, scalar_sl H.i, cells_sl H.i, pure_sl H.i, Int.toNat_natCast, lenV_sl X, elem_in X, view_sl X, scalar_sl X, cells_sl X, pure_sl X, Int.toNat_natCast, lenV_sl Y, elem_in Y, view_sl Y, scalar_sl Y, cells_sl Y, pure_sl Y, Int.toNat_natCast, h1, h2, h1', h2', gUn, decide_true, decide_false, Bool.true_and, Bool.false_and, Bool.and_true, Bool.and_false]
  · have h1' : ¬ l.length ≤ 40 := by omega
    simp (disch := first | assumption | omega | (simp only [az]; done)) only [ru, eq_self, if_true, if_false, BEq.rfl, binI, AO.row?, splice, fillL, mmAll, loadV, storeV, zeros, Am.rowAt, Am.part, addOff, Nat.reduceAdd, Nat.reduceMul, Nat.reduceLeDiff, Nat.reduceSub, Nat.reduceLT, Int.reduceEq, Int.reduceLT, Int.reduceLE, Int.reduceGT, Int.reduceGE, Int.reduceAdd, Int.reduceSub, Int.reduceMul, Int.reduceNeg, Int.reduceToNat, reduceCtorEq, reduceIte, lenV_sl H.i, elem_pt H.i, view_sl H.i, scalar_sl H.i, cells_sl H.i, pure_sl H.i, Int.toNat_natCast, lenV_sl X, elem_in X, view_sl X, scalar_sl X, cells_sl X, pure_sl X, Int.toNat_natCast, lenV_sl Y, elem_in Y, view_sl Y, scalar_sl Y, cells_sl Y, pure_sl Y, Int.toNat_natCast, h1, h1', gUn, decide_true, decide_false, Bool.true_and, Bool.false_and, Bool.and_true]
end
end Go.Proofs.Yteonklnjchefiaa.S

