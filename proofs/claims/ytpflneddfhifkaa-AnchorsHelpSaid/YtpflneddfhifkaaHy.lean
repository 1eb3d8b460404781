/-
Spare, Wind and Storm, as the specification and as the program have them; the laws of stage 2 on what is known and on the wind.
-/
import Derived.Test.YtpflneddfhifkaaHx
namespace Go.Proofs.Ytpflneddfhifkaa.S
open Go Go.Am Go.Proofs.Ytpflneddfhifkaa.T
set_option maxRecDepth 100000
set_option linter.unusedSimpArgs false
set_option linter.unusedVariables false

/-- the least, and the greatest, of the first ones -/
def ext (mx : Bool) (f : Tru → Int) (T : List Tru) : Nat → Int
  | 0 => f (T.getD 0 default)
  | i + 1 => mmx mx (ext mx f T i) (f (T.getD i default))
theorem ext_min {f : Tru → Int} {T : List Tru} {m : Tru} (hm : m ∈ T) (h : ∀ t ∈ T, f m ≤ f t) : ext false f T T.length = f m := by
  have hT : 0 < T.length := List.length_pos_of_mem hm
  have key : ∀ i, i ≤ T.length → f m ≤ ext false f T i ∧ ∀ j, j < i → ext false f T i ≤ f (T.getD j default) := by
    intro i
    induction i with
    | zero => intro _; exact ⟨h _ (getD_mem hT), fun j hj => by omega⟩
    | succ i ih =>
      intro hi
      obtain ⟨h1, h2⟩ := ih (by omega)
      have h3 := h _ (getD_mem (l := T) (i := i) (by omega))
      simp only [ext, mmx, Bool.false_eq_true, if_false]
      split
      · refine ⟨h3, fun j hj => ?_⟩
        by_cases e : j = i
        · subst e; exact Int.le_refl _
        · have := h2 j (by omega); omega
      · refine ⟨h1, fun j hj => ?_⟩
        by_cases e : j = i
        · subst e; omega
        · exact h2 j (by omega)
  obtain ⟨h1, h2⟩ := key T.length (Nat.le_refl _)
  obtain ⟨j, hj, e⟩ := List.mem_iff_getElem.1 hm
  have := h2 j hj
  rw [List.getD_eq_getElem?_getD, List.getElem?_eq_getElem hj, Option.getD_some, e] at this
  omega
theorem ext_max {f : Tru → Int} {T : List Tru} {m : Tru} (hm : m ∈ T) (h : ∀ t ∈ T, f t ≤ f m) : ext true f T T.length = f m := by
  have hT : 0 < T.length := List.length_pos_of_mem hm
  have key : ∀ i, i ≤ T.length → ext true f T i ≤ f m ∧ ∀ j, j < i → f (T.getD j default) ≤ ext true f T i := by
    intro i
    induction i with
    | zero => intro _; exact ⟨h _ (getD_mem hT), fun j hj => by omega⟩
    | succ i ih =>
      intro hi
      obtain ⟨h1, h2⟩ := ih (by omega)
      have h3 := h _ (getD_mem (l := T) (i := i) (by omega))
      simp only [ext, mmx, if_true]
      split
      · refine ⟨h3, fun j hj => ?_⟩
        by_cases e : j = i
        · subst e; exact Int.le_refl _
        · have := h2 j (by omega); omega
      · refine ⟨h1, fun j hj => ?_⟩
        by_cases e : j = i
        · subst e; omega
        · exact h2 j (by omega)
  obtain ⟨h1, h2⟩ := key T.length (Nat.le_refl _)
  obtain ⟨j, hj, e⟩ := List.mem_iff_getElem.1 hm
  have := h2 j hj
  rw [List.getD_eq_getElem?_getD, List.getElem?_eq_getElem hj, Option.getD_some, e] at this
  omega

def spareA (n : Net) (x : Int) : Int × Int × Int := if n.valid then (if inR x 0 ((n.ancs.length : Int) - 1) then (spareI n (rough n) x.toNat, spareI n (calm n) x.toNat, 0) else (0, 0, 1)) else (0, 0, 20)
theorem s42 {n : Net} {g a w : AV} (H : NetOk n g a w) (x : Int) (st : Bool) : Iso E 42 [netV n g a w, I x] st = some (.tup [.agg [I (spareA n x).1, I (spareA n x).2.1], I (spareA n x).2.2]) := by
  have sa := H.sa
  refine Iso_of (es _ _ _ _) e42 ?_
  simp only [f42, netV]
  cases hv : n.valid
  · simp (disch := first | assumption | omega | (simp only [az]; done)) only [ru, eq_self, if_true, if_false, BEq.rfl, binI, AO.row?, splice, fillL, mmAll, loadV, storeV, zeros, Am.rowAt, Am.part, addOff, Nat.reduceAdd, Nat.reduceMul, Nat.reduceLeDiff, Nat.reduceSub, Nat.reduceLT, Int.reduceEq, Int.reduceLT, Int.reduceLE, Int.reduceGT, Int.reduceGE, Int.reduceAdd, Int.reduceSub, Int.reduceMul, Int.reduceNeg, Int.reduceToNat, reduceCtorEq, reduceIte, lenV_sl H.g, lenV_sl H.a, lenV_sl H.w, elem_sl Spn.el H.g, elem_sl Anc.el H.a, elem_sl Wal.el H.w, view_sl H.g, view_sl H.a, view_sl H.w, scalar_sl H.g, scalar_sl H.a, scalar_sl H.w, cells_sl H.g, cells_sl H.a, cells_sl H.w, pure_sl H.g, pure_sl H.a, pure_sl H.w, Spn.e, Anc.e, Wal.e, Spn.eta, Anc.eta, Wal.eta, Int.toNat_natCast, s57 H, s72 H, hv, finCT, getRes, Option.some.injEq, exists_eq_left']
    simp only [spareA, hv, Bool.false_eq_true, if_false]
  cases hx : inR x 0 ((n.ancs.length : Int) - 1)
  · simp (disch := first | assumption | omega | (simp only [az]; done)) only [ru, eq_self, if_true, if_false, BEq.rfl, binI, AO.row?, splice, fillL, mmAll, loadV, storeV, zeros, Am.rowAt, Am.part, addOff, Nat.reduceAdd, Nat.reduceMul, Nat.reduceLeDiff, Nat.reduceSub, Nat.reduceLT, Int.reduceEq, Int.reduceLT, Int.reduceLE, Int.reduceGT, Int.reduceGE, Int.reduceAdd, Int.reduceSub, Int.reduceMul, Int.reduceNeg, Int.reduceToNat, reduceCtorEq, reduceIte, lenV_sl H.g, lenV_sl H.a, lenV_sl H.w, elem_sl Spn.el H.g, elem_sl Anc.el H.a, elem_sl Wal.el H.w, view_sl H.g, view_sl H.a, view_sl H.w, scalar_sl H.g, scalar_sl H.a, scalar_sl H.w, cells_sl H.g, cells_sl H.a, cells_sl H.w, pure_sl H.g, pure_sl H.a, pure_sl H.w, Spn.e, Anc.e, Wal.e, Spn.eta, Anc.eta, Wal.eta, Int.toNat_natCast, s57 H, s72 H, hv, hx, finCT, getRes, Option.some.injEq, exists_eq_left']
    simp only [spareA, hv, hx, Bool.false_eq_true, if_false, if_true]
  have hx' := inR_iff.1 hx
  obtain ⟨k, rfl⟩ : ∃ k : Nat, x = k := ⟨x.toNat, by omega⟩
  have hk : k < n.ancs.length := by omega
  obtain ⟨f, hf⟩ : ∃ f : Tru → Int, f = fun t => spareI n t k := ⟨_, rfl⟩
  have k1 : ext false f (truths n) (truths n).length = f (rough n) := ext_min (rough_mem hv) fun t ht => by
    rw [hf]; exact spare_calmer (truths_good hv ht).toFair (rough_calmer (truths_good hv ht)) hk
  have k2 : ext true f (truths n) (truths n).length = f (calm n) := ext_max (calm_mem hv) fun t ht => by
    rw [hf]; exact spare_calmer (calm_good hv).toFair (calm_calmer (truths_good hv ht)) hk
  have dA : spareA n k = (f (rough n), f (calm n), 0) := by simp only [spareA, hv, hx, if_true, Int.toNat_natCast, hf]
  rw [dA, ← k1, ← k2]
  clear dA k1 k2
  have q := s91 H hv
  have tl := truths_le hv
  have tp : 0 < (truths n).length := List.length_pos_of_mem (rough_mem hv)
  have at' := fun i hi => truths_at (n := n) (i := i) hv hi
  have lg := (netB hv).lg
  obtain ⟨T, hT⟩ : ∃ T, T = truths n := ⟨_, rfl⟩
  rw [← hT] at q tl tp ⊢
  simp only [← hT] at at'
  have LT : IsSl 3 Tru.e T (slV 3 Tru.e T) := slV_is
  simp only [netV] at q
  have c : ∀ i, i < T.length → ∀ st, Iso E 55 [netV n g a w, .agg [I (T.getD i default).wind, I (T.getD i default).cur, resL (T.getD i default).grips], I k] st = some (I (f (T.getD i default))) := fun i hi st => by
    rw [hf]
    exact s55 H ⟨resL_is _, by have := (at' i hi).b.2.2.1; omega⟩ (at' i hi).toFair hk st
  have c0 := c 0 tp
  simp only [netV] at c c0
  have tp' : (0 : Int) < T.length := by omega
  simp (disch := first | assumption | omega | (simp only [az]; done)) only [ru, eq_self, if_true, if_false, BEq.rfl, binI, AO.row?, splice, fillL, mmAll, loadV, storeV, zeros, Am.rowAt, Am.part, addOff, Nat.reduceAdd, Nat.reduceMul, Nat.reduceLeDiff, Nat.reduceSub, Nat.reduceLT, Int.reduceEq, Int.reduceLT, Int.reduceLE, Int.reduceGT, Int.reduceGE, Int.reduceAdd, Int.reduceSub, Int.reduceMul, Int.reduceNeg, Int.reduceToNat, reduceCtorEq, reduceIte, lenV_sl H.g, lenV_sl H.a, lenV_sl H.w, elem_sl Spn.el H.g, elem_sl Anc.el H.a, elem_sl Wal.el H.w, view_sl H.g, view_sl H.a, view_sl H.w, scalar_sl H.g, scalar_sl H.a, scalar_sl H.w, cells_sl H.g, cells_sl H.a, cells_sl H.w, pure_sl H.g, pure_sl H.a, pure_sl H.w, Spn.e, Anc.e, Wal.e, Spn.eta, Anc.eta, Wal.eta, Int.toNat_natCast, s57 H, s72 H, hv, hx, q, tp', elem_sl Tru.el LT, Int.toNat_zero, Tru.e, resL_sc, resL_ce, resL_pu, resL_vi, c0]
  refine G_loop_ind (fun m ts h mk => ∃ (i : Nat), i ≤ T.length ∧ m = T.length - i ∧ ts.length = 55 ∧ ts.getD 1 .undef = I k ∧ ts.getD 2 .undef = .ptr 0 0 ∧ ts.getD 4 .undef = .ptr 1 0 ∧ ts.getD 7 .undef = slV 3 Tru.e T ∧ ts.getD 9 .undef = .ptr 2 0 ∧ ts.getD 10 .undef = I i ∧
    h = [.cells [I n.wind.lo, I n.wind.hi, I n.cur.lo, I n.cur.hi, g, a, w] false, .cells [I 0, I 0] false, .cells [I (ext false f T i), I (ext true f T i)] false] ∧ mk = []) ?_ _ _ _ _
    ⟨0, Nat.zero_le _, rfl, rfl, rfl, rfl, rfl, rfl, rfl, rfl, rfl, rfl⟩
  rintro m ts h mk ih ⟨i, hi, rfl, hl, q1, q2, q4, q7, q9, q10, rfl, rfl⟩
  rw [lit_all hl]
  simp only [lit0, litS, Nat.reduceAdd, q1, q2, q4, q7, q9, q10]
  simp (disch := first | assumption | omega | (simp only [az]; done)) only [ru, eq_self, if_true, if_false, BEq.rfl, binI, AO.row?, splice, fillL, mmAll, loadV, storeV, zeros, Am.rowAt, Am.part, addOff, Nat.reduceAdd, Nat.reduceMul, Nat.reduceLeDiff, Nat.reduceSub, Nat.reduceLT, Int.reduceEq, Int.reduceLT, Int.reduceLE, Int.reduceGT, Int.reduceGE, Int.reduceAdd, Int.reduceSub, Int.reduceMul, Int.reduceNeg, Int.reduceToNat, reduceCtorEq, reduceIte, lenV_sl LT]
  by_cases hlt : (i : Int) < T.length
  case pos =>
    have hi' : i < T.length := by omega
    have ci := c i hi'
    simp (disch := first | assumption | omega | (simp only [az]; done)) only [ru, eq_self, if_true, if_false, BEq.rfl, binI, AO.row?, splice, fillL, mmAll, loadV, storeV, zeros, Am.rowAt, Am.part, addOff, Nat.reduceAdd, Nat.reduceMul, Nat.reduceLeDiff, Nat.reduceSub, Nat.reduceLT, Int.reduceEq, Int.reduceLT, Int.reduceLE, Int.reduceGT, Int.reduceGE, Int.reduceAdd, Int.reduceSub, Int.reduceMul, Int.reduceNeg, Int.reduceToNat, reduceCtorEq, reduceIte, hlt, lenV_sl H.g, lenV_sl H.a, lenV_sl H.w, elem_sl Spn.el H.g, elem_sl Anc.el H.a, elem_sl Wal.el H.w, view_sl H.g, view_sl H.a, view_sl H.w, scalar_sl H.g, scalar_sl H.a, scalar_sl H.w, cells_sl H.g, cells_sl H.a, cells_sl H.w, pure_sl H.g, pure_sl H.a, pure_sl H.w, Spn.e, Anc.e, Wal.e, Spn.eta, Anc.eta, Wal.eta, Int.toNat_natCast, elem_sl Tru.el LT, Int.toNat_natCast, Tru.e, resL_sc, resL_ce, resL_pu, resL_vi, ci]
    exact ih (T.length - (i + 1)) _ _ _ (by omega) ⟨i + 1, by omega, rfl, rfl, rfl, rfl, rfl, rfl, rfl, rfl, rfl, rfl⟩
  obtain rfl : i = T.length := by omega
  simp (disch := first | assumption | omega | (simp only [az]; done)) only [ru, eq_self, if_true, if_false, BEq.rfl, binI, AO.row?, splice, fillL, mmAll, loadV, storeV, zeros, Am.rowAt, Am.part, addOff, Nat.reduceAdd, Nat.reduceMul, Nat.reduceLeDiff, Nat.reduceSub, Nat.reduceLT, Int.reduceEq, Int.reduceLT, Int.reduceLE, Int.reduceGT, Int.reduceGE, Int.reduceAdd, Int.reduceSub, Int.reduceMul, Int.reduceNeg, Int.reduceToNat, reduceCtorEq, reduceIte, hlt, finCT, getRes, Option.some.injEq, exists_eq_left']
theorem s41a {n : Net} {g a w : AV} (H : NetOk n g a w) (x : Int) (st : Bool) : Iso E 41 [netV n g a w, I x] st = some (.tup [.agg [I (spareA n x).1, I (spareA n x).2.1], I (spareA n x).2.2]) := by
  cases hv : n.valid
  · refine Iso_of (es _ _ _ _) e41 ?_
    simp only [f41, netV]
    simp (disch := first | assumption | omega | (simp only [az]; done)) only [ru, eq_self, if_true, if_false, BEq.rfl, binI, AO.row?, splice, fillL, mmAll, loadV, storeV, zeros, Am.rowAt, Am.part, addOff, Nat.reduceAdd, Nat.reduceMul, Nat.reduceLeDiff, Nat.reduceSub, Nat.reduceLT, Int.reduceEq, Int.reduceLT, Int.reduceLE, Int.reduceGT, Int.reduceGE, Int.reduceAdd, Int.reduceSub, Int.reduceMul, Int.reduceNeg, Int.reduceToNat, reduceCtorEq, reduceIte, lenV_sl H.g, lenV_sl H.a, lenV_sl H.w, elem_sl Spn.el H.g, elem_sl Anc.el H.a, elem_sl Wal.el H.w, view_sl H.g, view_sl H.a, view_sl H.w, scalar_sl H.g, scalar_sl H.a, scalar_sl H.w, cells_sl H.g, cells_sl H.a, cells_sl H.w, pure_sl H.g, pure_sl H.a, pure_sl H.w, Spn.e, Anc.e, Wal.e, Spn.eta, Anc.eta, Wal.eta, Int.toNat_natCast, s86 H, s68 H, hv, finCT, getRes, Option.some.injEq, exists_eq_left']
    simp only [spareA, hv, Bool.false_eq_true, if_false]
  cases hx : inR x 0 ((n.ancs.length : Int) - 1)
  · refine Iso_of (es _ _ _ _) e41 ?_
    simp only [f41, netV]
    simp (disch := first | assumption | omega | (simp only [az]; done)) only [ru, eq_self, if_true, if_false, BEq.rfl, binI, AO.row?, splice, fillL, mmAll, loadV, storeV, zeros, Am.rowAt, Am.part, addOff, Nat.reduceAdd, Nat.reduceMul, Nat.reduceLeDiff, Nat.reduceSub, Nat.reduceLT, Int.reduceEq, Int.reduceLT, Int.reduceLE, Int.reduceGT, Int.reduceGE, Int.reduceAdd, Int.reduceSub, Int.reduceMul, Int.reduceNeg, Int.reduceToNat, reduceCtorEq, reduceIte, lenV_sl H.g, lenV_sl H.a, lenV_sl H.w, elem_sl Spn.el H.g, elem_sl Anc.el H.a, elem_sl Wal.el H.w, view_sl H.g, view_sl H.a, view_sl H.w, scalar_sl H.g, scalar_sl H.a, scalar_sl H.w, cells_sl H.g, cells_sl H.a, cells_sl H.w, pure_sl H.g, pure_sl H.a, pure_sl H.w, Spn.e, Anc.e, Wal.e, Spn.eta, Anc.eta, Wal.eta, Int.toNat_natCast, s86 H, s68 H, hv, hx, finCT, getRes, Option.some.injEq, exists_eq_left']
    simp only [spareA, hv, hx, Bool.false_eq_true, if_false, if_true]
  have hx' := inR_iff.1 hx
  obtain ⟨k, rfl⟩ : ∃ k : Nat, x = k := ⟨x.toNat, by omega⟩
  rw [s41 H hv (i := k) (by omega)]
  simp only [spareA, hv, hx, if_true, Int.toNat_natCast]

/-! winds -/
def inWd (n : Net) (x : Int) : Net := { n with wind := ⟨x, x⟩ }
theorem inWd_valid {n : Net} (hv : n.valid = true) {x : Int} (h0 : 0 ≤ x) (h1 : x ≤ 20) : (inWd n x).valid = true := by
  simp only [Net.valid, Bool.and_eq_true] at hv ⊢
  obtain ⟨⟨⟨⟨⟨⟨⟨a1, a2⟩, a3⟩, a4⟩, a5⟩, a6⟩, a7⟩, a8⟩ := hv
  refine ⟨⟨⟨⟨⟨⟨⟨?_, a2⟩, a3⟩, a4⟩, a5⟩, a6⟩, a7⟩, a8⟩
  simp only [spanOk, inWd, Bool.and_eq_true, inR_iff]; omega
theorem s98 {n : Net} {g a w : AV} (H : NetOk n g a w) (x : Int) : Iso E 98 [netV n g a w, I x] false = some (netC (inWd n x)) := by
  refine Iso_of (es _ _ _ _) e98 ?_
  simp only [f98, netV]
  simp (disch := first | assumption | omega | (simp only [az]; done)) only [ru, eq_self, if_true, if_false, BEq.rfl, binI, AO.row?, splice, fillL, mmAll, loadV, storeV, zeros, Am.rowAt, Am.part, addOff, Nat.reduceAdd, Nat.reduceMul, Nat.reduceLeDiff, Nat.reduceSub, Nat.reduceLT, Int.reduceEq, Int.reduceLT, Int.reduceLE, Int.reduceGT, Int.reduceGE, Int.reduceAdd, Int.reduceSub, Int.reduceMul, Int.reduceNeg, Int.reduceToNat, reduceCtorEq, reduceIte, lenV_sl H.g, lenV_sl H.a, lenV_sl H.w, elem_sl Spn.el H.g, elem_sl Anc.el H.a, elem_sl Wal.el H.w, view_sl H.g, view_sl H.a, view_sl H.w, scalar_sl H.g, scalar_sl H.a, scalar_sl H.w, cells_sl H.g, cells_sl H.a, cells_sl H.w, pure_sl H.g, pure_sl H.a, pure_sl H.w, Spn.e, Anc.e, Wal.e, Spn.eta, Anc.eta, Wal.eta, Int.toNat_natCast, s17 H, slV_sc, slV_ce, slV_vi, slV_pu, finC, getRes, Option.some.injEq, exists_eq_left']
  rfl
/-- all are quiet, none is -/
theorem quiet_all {n : Net} (hv : n.valid = true) : (((truths n).filter (still n)).length : Int) < (truths n).length ↔ still n (rough n) = false := by
  have hle := List.length_filter_le (still n) (truths n)
  constructor
  · intro h
    cases hr : still n (rough n) with
    | false => rfl
    | true =>
      have : (truths n).filter (still n) = truths n := List.filter_eq_self.2 fun t ht => still_calmer (truths_good hv ht).toFair (rough_calmer (truths_good hv ht)) hr
      rw [this] at h; omega
  · intro h
    have : (truths n).filter (still n) ≠ truths n := fun e => by
      have := List.filter_eq_self.1 e _ (rough_mem hv)
      rw [h] at this; cases this
    have lt : ((truths n).filter (still n)).length ≠ (truths n).length := fun e => this (List.filter_eq_self.2 (List.length_filter_eq_length_iff.1 e))
    omega
theorem quiet_none {n : Net} (hv : n.valid = true) : (((truths n).filter (still n)).length : Int) = 0 ↔ still n (calm n) = false := by
  constructor
  · intro h
    have e : (truths n).filter (still n) = [] := List.eq_nil_of_length_eq_zero (by omega)
    have := List.filter_eq_nil_iff.1 e _ (calm_mem hv)
    simpa using this
  · intro h
    have e : (truths n).filter (still n) = [] := List.filter_eq_nil_iff.2 fun t ht hs => by
      have := still_calmer (calm_good hv).toFair (calm_calmer (truths_good hv ht)) hs
      rw [h] at this; cases this
    rw [e]; rfl
theorem s97 {n : Net} {g a w : AV} (H : NetOk n g a w) (hv : n.valid = true) (st : Bool) : Iso E 97 [netV n g a w] st = some (I (lw n (rough n))) := by
  refine Iso_of (es _ _ _ _) e97 ?_
  simp only [f97, netV]
  simp (disch := first | assumption | omega | (simp only [az]; done)) only [ru, eq_self, if_true, if_false, BEq.rfl, binI, AO.row?, splice, fillL, mmAll, loadV, storeV, zeros, Am.rowAt, Am.part, addOff, Nat.reduceAdd, Nat.reduceMul, Nat.reduceLeDiff, Nat.reduceSub, Nat.reduceLT, Int.reduceEq, Int.reduceLT, Int.reduceLE, Int.reduceGT, Int.reduceGE, Int.reduceAdd, Int.reduceSub, Int.reduceMul, Int.reduceNeg, Int.reduceToNat, reduceCtorEq, reduceIte]
  refine G_loop_ind (fun m ts h mk => ∃ (i : Nat), i ≤ 21 ∧ m = 21 - i ∧ lwGo n (rough n) (21 - i) i = lw n (rough n) ∧ ts.length = 22 ∧ ts.getD 1 .undef = .ptr 0 0 ∧ ts.getD 3 .undef = I i ∧ h = [.cells [I n.wind.lo, I n.wind.hi, I n.cur.lo, I n.cur.hi, g, a, w] false] ∧ mk = []) ?_ _ _ _ _ ⟨0, Nat.zero_le _, rfl, rfl, rfl, rfl, rfl, rfl, rfl⟩
  rintro m ts h mk ih ⟨i, hi, rfl, hg, hl, q1, q3, rfl, rfl⟩
  rw [lit_all hl]
  simp only [lit0, litS, Nat.reduceAdd, q1, q3]
  simp (disch := first | assumption | omega | (simp only [az]; done)) only [ru, eq_self, if_true, if_false, BEq.rfl, binI, AO.row?, splice, fillL, mmAll, loadV, storeV, zeros, Am.rowAt, Am.part, addOff, Nat.reduceAdd, Nat.reduceMul, Nat.reduceLeDiff, Nat.reduceSub, Nat.reduceLT, Int.reduceEq, Int.reduceLT, Int.reduceLE, Int.reduceGT, Int.reduceGE, Int.reduceAdd, Int.reduceSub, Int.reduceMul, Int.reduceNeg, Int.reduceToNat, reduceCtorEq, reduceIte]
  by_cases hlt : (i : Int) ≤ 20
  case pos =>
    have vi := inWd_valid hv (x := (i : Int)) (by omega) hlt
    have Hi : NetOk (inWd n i) (slV 2 Spn.e (inWd n i).grips) (slV 2 Anc.e (inWd n i).ancs) (slV 5 Wal.e (inWd n i).walls) := ⟨slV_is, slV_is, slV_is, H.sg, H.sa, H.sw⟩
    have c1 := s98 H (i : Int)
    have c2 := fun st => s93 Hi vi st
    have qa := quiet_all vi
    have e1 : still (inWd n i) (rough (inWd n i)) = still n (inW (rough n) i) := rfl
    rw [e1] at qa
    have e : 21 - i = (21 - (i + 1)) + 1 := by omega
    rw [e, lwGo] at hg
    obtain ⟨n', hn'⟩ : ∃ n', n' = inWd n i := ⟨_, rfl⟩
    rw [← hn'] at qa
    simp only [← hn', netC, netV] at c1 c2
    obtain ⟨x, hx⟩ : ∃ x, x = ((truths n').filter (still n')).length := ⟨_, rfl⟩
    obtain ⟨y, hy⟩ : ∃ y, y = (truths n').length := ⟨_, rfl⟩
    rw [← hx, ← hy] at qa
    simp only [← hx, ← hy] at c2
    cases hs : still n (inW (rough n) i)
    · rw [hs] at hg
      simp only [Bool.false_eq_true, if_false] at hg
      have lt := qa.2 hs
      simp (disch := first | assumption | omega | (simp only [az]; done)) only [ru, eq_self, if_true, if_false, BEq.rfl, binI, AO.row?, splice, fillL, mmAll, loadV, storeV, zeros, Am.rowAt, Am.part, addOff, Nat.reduceAdd, Nat.reduceMul, Nat.reduceLeDiff, Nat.reduceSub, Nat.reduceLT, Int.reduceEq, Int.reduceLT, Int.reduceLE, Int.reduceGT, Int.reduceGE, Int.reduceAdd, Int.reduceSub, Int.reduceMul, Int.reduceNeg, Int.reduceToNat, reduceCtorEq, reduceIte, lenV_sl H.g, lenV_sl H.a, lenV_sl H.w, elem_sl Spn.el H.g, elem_sl Anc.el H.a, elem_sl Wal.el H.w, view_sl H.g, view_sl H.a, view_sl H.w, scalar_sl H.g, scalar_sl H.a, scalar_sl H.w, cells_sl H.g, cells_sl H.a, cells_sl H.w, pure_sl H.g, pure_sl H.a, pure_sl H.w, Spn.e, Anc.e, Wal.e, Spn.eta, Anc.eta, Wal.eta, Int.toNat_natCast, hlt, c1, c2, slV_sc, slV_ce, slV_vi, slV_pu, lt]
      rw [hg]
    · rw [hs] at hg
      simp only [if_true] at hg
      have lt : ¬ (x : Int) < y := fun h => by rw [qa.1 h] at hs; cases hs
      simp (disch := first | assumption | omega | (simp only [az]; done)) only [ru, eq_self, if_true, if_false, BEq.rfl, binI, AO.row?, splice, fillL, mmAll, loadV, storeV, zeros, Am.rowAt, Am.part, addOff, Nat.reduceAdd, Nat.reduceMul, Nat.reduceLeDiff, Nat.reduceSub, Nat.reduceLT, Int.reduceEq, Int.reduceLT, Int.reduceLE, Int.reduceGT, Int.reduceGE, Int.reduceAdd, Int.reduceSub, Int.reduceMul, Int.reduceNeg, Int.reduceToNat, reduceCtorEq, reduceIte, lenV_sl H.g, lenV_sl H.a, lenV_sl H.w, elem_sl Spn.el H.g, elem_sl Anc.el H.a, elem_sl Wal.el H.w, view_sl H.g, view_sl H.a, view_sl H.w, scalar_sl H.g, scalar_sl H.a, scalar_sl H.w, cells_sl H.g, cells_sl H.a, cells_sl H.w, pure_sl H.g, pure_sl H.a, pure_sl H.w, Spn.e, Anc.e, Wal.e, Spn.eta, Anc.eta, Wal.eta, Int.toNat_natCast, hlt, c1, c2, slV_sc, slV_ce, slV_vi, slV_pu, lt]
      exact ih (21 - (i + 1)) _ _ _ (by omega) ⟨i + 1, by omega, rfl, hg, rfl, rfl, rfl, rfl, rfl⟩
  obtain rfl : i = 21 := by omega
  have hg' : lw n (rough n) = 21 := by rw [← hg]; rfl
  simp (disch := first | assumption | omega | (simp only [az]; done)) only [ru, eq_self, if_true, if_false, BEq.rfl, binI, AO.row?, splice, fillL, mmAll, loadV, storeV, zeros, Am.rowAt, Am.part, addOff, Nat.reduceAdd, Nat.reduceMul, Nat.reduceLeDiff, Nat.reduceSub, Nat.reduceLT, Int.reduceEq, Int.reduceLT, Int.reduceLE, Int.reduceGT, Int.reduceGE, Int.reduceAdd, Int.reduceSub, Int.reduceMul, Int.reduceNeg, Int.reduceToNat, reduceCtorEq, reduceIte, hlt, hg']
def windA (n : Net) : Int × Int := if n.valid then (wv (lw n (rough n)), we (lw n (rough n))) else (0, 20)
def stormA (n : Net) : Int × Int := if n.valid then (wv (lw n (calm n)), we (lw n (calm n))) else (0, 20)
theorem s44 {n : Net} {g a w : AV} (H : NetOk n g a w) (st : Bool) : Iso E 44 [netV n g a w] st = some (.tup [I (windA n).1, I (windA n).2]) := by
  refine Iso_of (es _ _ _ _) e44 ?_
  simp only [f44, netV]
  cases hv : n.valid
  · simp (disch := first | assumption | omega | (simp only [az]; done)) only [ru, eq_self, if_true, if_false, BEq.rfl, binI, AO.row?, splice, fillL, mmAll, loadV, storeV, zeros, Am.rowAt, Am.part, addOff, Nat.reduceAdd, Nat.reduceMul, Nat.reduceLeDiff, Nat.reduceSub, Nat.reduceLT, Int.reduceEq, Int.reduceLT, Int.reduceLE, Int.reduceGT, Int.reduceGE, Int.reduceAdd, Int.reduceSub, Int.reduceMul, Int.reduceNeg, Int.reduceToNat, reduceCtorEq, reduceIte, lenV_sl H.g, lenV_sl H.a, lenV_sl H.w, elem_sl Spn.el H.g, elem_sl Anc.el H.a, elem_sl Wal.el H.w, view_sl H.g, view_sl H.a, view_sl H.w, scalar_sl H.g, scalar_sl H.a, scalar_sl H.w, cells_sl H.g, cells_sl H.a, cells_sl H.w, pure_sl H.g, pure_sl H.a, pure_sl H.w, Spn.e, Anc.e, Wal.e, Spn.eta, Anc.eta, Wal.eta, Int.toNat_natCast, s19 H, hv]
    simp only [windA, hv, Bool.false_eq_true, if_false]
  have q := fun st => s97 H hv st
  have dA : windA n = (wv (lw n (rough n)), we (lw n (rough n))) := by simp only [windA, hv, if_true]
  rw [dA]
  obtain ⟨r, hr⟩ : ∃ r, r = lw n (rough n) := ⟨_, rfl⟩
  rw [← hr]
  simp only [← hr, netV] at q
  simp only [wv, we]
  by_cases h : (r : Int) > 20
  · simp (disch := first | assumption | omega | (simp only [az]; done)) only [ru, eq_self, if_true, if_false, BEq.rfl, binI, AO.row?, splice, fillL, mmAll, loadV, storeV, zeros, Am.rowAt, Am.part, addOff, Nat.reduceAdd, Nat.reduceMul, Nat.reduceLeDiff, Nat.reduceSub, Nat.reduceLT, Int.reduceEq, Int.reduceLT, Int.reduceLE, Int.reduceGT, Int.reduceGE, Int.reduceAdd, Int.reduceSub, Int.reduceMul, Int.reduceNeg, Int.reduceToNat, reduceCtorEq, reduceIte, lenV_sl H.g, lenV_sl H.a, lenV_sl H.w, elem_sl Spn.el H.g, elem_sl Anc.el H.a, elem_sl Wal.el H.w, view_sl H.g, view_sl H.a, view_sl H.w, scalar_sl H.g, scalar_sl H.a, scalar_sl H.w, cells_sl H.g, cells_sl H.a, cells_sl H.w, pure_sl H.g, pure_sl H.a, pure_sl H.w, Spn.e, Anc.e, Wal.e, Spn.eta, Anc.eta, Wal.eta, Int.toNat_natCast, s19 H, hv, q, h]
  · simp (disch := first | assumption | omega | (simp only [az]; done)) only [ru, eq_self, if_true, if_false, BEq.rfl, binI, AO.row?, splice, fillL, mmAll, loadV, storeV, zeros, Am.rowAt, Am.part, addOff, Nat.reduceAdd, Nat.reduceMul, Nat.reduceLeDiff, Nat.reduceSub, Nat.reduceLT, Int.reduceEq, Int.reduceLT, Int.reduceLE, Int.reduceGT, Int.reduceGE, Int.reduceAdd, Int.reduceSub, Int.reduceMul, Int.reduceNeg, Int.reduceToNat, reduceCtorEq, reduceIte, lenV_sl H.g, lenV_sl H.a, lenV_sl H.w, elem_sl Spn.el H.g, elem_sl Anc.el H.a, elem_sl Wal.el H.w, view_sl H.g, view_sl H.a, view_sl H.w, scalar_sl H.g, scalar_sl H.a, scalar_sl H.w, cells_sl H.g, cells_sl H.a, cells_sl H.w, pure_sl H.g, pure_sl H.a, pure_sl H.w, Spn.e, Anc.e, Wal.e, Spn.eta, Anc.eta, Wal.eta, Int.toNat_natCast, s19 H, hv, q, h]
theorem s43a {n : Net} {g a w : AV} (H : NetOk n g a w) (st : Bool) : Iso E 43 [netV n g a w] st = some (.tup [I (windA n).1, I (windA n).2]) := by
  cases hv : n.valid
  · refine Iso_of (es _ _ _ _) e43 ?_
    simp only [f43, netV]
    simp (disch := first | assumption | omega | (simp only [az]; done)) only [ru, eq_self, if_true, if_false, BEq.rfl, binI, AO.row?, splice, fillL, mmAll, loadV, storeV, zeros, Am.rowAt, Am.part, addOff, Nat.reduceAdd, Nat.reduceMul, Nat.reduceLeDiff, Nat.reduceSub, Nat.reduceLT, Int.reduceEq, Int.reduceLT, Int.reduceLE, Int.reduceGT, Int.reduceGE, Int.reduceAdd, Int.reduceSub, Int.reduceMul, Int.reduceNeg, Int.reduceToNat, reduceCtorEq, reduceIte, lenV_sl H.g, lenV_sl H.a, lenV_sl H.w, elem_sl Spn.el H.g, elem_sl Anc.el H.a, elem_sl Wal.el H.w, view_sl H.g, view_sl H.a, view_sl H.w, scalar_sl H.g, scalar_sl H.a, scalar_sl H.w, cells_sl H.g, cells_sl H.a, cells_sl H.w, pure_sl H.g, pure_sl H.a, pure_sl H.w, Spn.e, Anc.e, Wal.e, Spn.eta, Anc.eta, Wal.eta, Int.toNat_natCast, s18 H, hv]
    simp only [windA, hv, Bool.false_eq_true, if_false]
  · rw [s43 H hv]; simp only [windA, hv, if_true]
theorem s45a {n : Net} {g a w : AV} (H : NetOk n g a w) (st : Bool) : Iso E 45 [netV n g a w] st = some (.tup [I (stormA n).1, I (stormA n).2]) := by
  cases hv : n.valid
  · refine Iso_of (es _ _ _ _) e45 ?_
    simp only [f45, netV]
    simp (disch := first | assumption | omega | (simp only [az]; done)) only [ru, eq_self, if_true, if_false, BEq.rfl, binI, AO.row?, splice, fillL, mmAll, loadV, storeV, zeros, Am.rowAt, Am.part, addOff, Nat.reduceAdd, Nat.reduceMul, Nat.reduceLeDiff, Nat.reduceSub, Nat.reduceLT, Int.reduceEq, Int.reduceLT, Int.reduceLE, Int.reduceGT, Int.reduceGE, Int.reduceAdd, Int.reduceSub, Int.reduceMul, Int.reduceNeg, Int.reduceToNat, reduceCtorEq, reduceIte, lenV_sl H.g, lenV_sl H.a, lenV_sl H.w, elem_sl Spn.el H.g, elem_sl Anc.el H.a, elem_sl Wal.el H.w, view_sl H.g, view_sl H.a, view_sl H.w, scalar_sl H.g, scalar_sl H.a, scalar_sl H.w, cells_sl H.g, cells_sl H.a, cells_sl H.w, pure_sl H.g, pure_sl H.a, pure_sl H.w, Spn.e, Anc.e, Wal.e, Spn.eta, Anc.eta, Wal.eta, Int.toNat_natCast, s18 H, hv]
    simp only [stormA, hv, Bool.false_eq_true, if_false]
  · rw [s45 H hv]; simp only [stormA, hv, if_true]
theorem s46 {n : Net} {g a w : AV} (H : NetOk n g a w) (st : Bool) : Iso E 46 [netV n g a w] st = some (.tup [I (stormA n).1, I (stormA n).2]) := by
  refine Iso_of (es _ _ _ _) e46 ?_
  simp only [f46, netV]
  cases hv : n.valid
  · simp (disch := first | assumption | omega | (simp only [az]; done)) only [ru, eq_self, if_true, if_false, BEq.rfl, binI, AO.row?, splice, fillL, mmAll, loadV, storeV, zeros, Am.rowAt, Am.part, addOff, Nat.reduceAdd, Nat.reduceMul, Nat.reduceLeDiff, Nat.reduceSub, Nat.reduceLT, Int.reduceEq, Int.reduceLT, Int.reduceLE, Int.reduceGT, Int.reduceGE, Int.reduceAdd, Int.reduceSub, Int.reduceMul, Int.reduceNeg, Int.reduceToNat, reduceCtorEq, reduceIte, lenV_sl H.g, lenV_sl H.a, lenV_sl H.w, elem_sl Spn.el H.g, elem_sl Anc.el H.a, elem_sl Wal.el H.w, view_sl H.g, view_sl H.a, view_sl H.w, scalar_sl H.g, scalar_sl H.a, scalar_sl H.w, cells_sl H.g, cells_sl H.a, cells_sl H.w, pure_sl H.g, pure_sl H.a, pure_sl H.w, Spn.e, Anc.e, Wal.e, Spn.eta, Anc.eta, Wal.eta, Int.toNat_natCast, s19 H, hv]
    simp only [stormA, hv, Bool.false_eq_true, if_false]
  have dA : stormA n = (wv (lw n (calm n)), we (lw n (calm n))) := by simp only [stormA, hv, if_true]
  rw [dA]
  obtain ⟨r, hr⟩ : ∃ r, r = lw n (calm n) := ⟨_, rfl⟩
  rw [← hr]
  have rl : r ≤ 21 := by rw [hr]; exact lw_le
  simp (disch := first | assumption | omega | (simp only [az]; done)) only [ru, eq_self, if_true, if_false, BEq.rfl, binI, AO.row?, splice, fillL, mmAll, loadV, storeV, zeros, Am.rowAt, Am.part, addOff, Nat.reduceAdd, Nat.reduceMul, Nat.reduceLeDiff, Nat.reduceSub, Nat.reduceLT, Int.reduceEq, Int.reduceLT, Int.reduceLE, Int.reduceGT, Int.reduceGE, Int.reduceAdd, Int.reduceSub, Int.reduceMul, Int.reduceNeg, Int.reduceToNat, reduceCtorEq, reduceIte, lenV_sl H.g, lenV_sl H.a, lenV_sl H.w, elem_sl Spn.el H.g, elem_sl Anc.el H.a, elem_sl Wal.el H.w, view_sl H.g, view_sl H.a, view_sl H.w, scalar_sl H.g, scalar_sl H.a, scalar_sl H.w, cells_sl H.g, cells_sl H.a, cells_sl H.w, pure_sl H.g, pure_sl H.a, pure_sl H.w, Spn.e, Anc.e, Wal.e, Spn.eta, Anc.eta, Wal.eta, Int.toNat_natCast, s19 H, hv]
  refine G_loop_ind (fun m ts h mk => ∃ (i : Nat), i ≤ 21 ∧ m = 21 - i ∧ lwGo n (calm n) (21 - i) i = r ∧ ts.length = 27 ∧ ts.getD 1 .undef = .ptr 0 0 ∧ ts.getD 5 .undef = I i ∧ h = [.cells [I n.wind.lo, I n.wind.hi, I n.cur.lo, I n.cur.hi, g, a, w] false] ∧ mk = []) ?_ _ _ _ _ ⟨0, Nat.zero_le _, rfl, hr.symm, rfl, rfl, rfl, rfl, rfl⟩
  rintro m ts h mk ih ⟨i, hi, rfl, hg, hl, q1, q5, rfl, rfl⟩
  rw [lit_all hl]
  simp only [lit0, litS, Nat.reduceAdd, q1, q5]
  simp (disch := first | assumption | omega | (simp only [az]; done)) only [ru, eq_self, if_true, if_false, BEq.rfl, binI, AO.row?, splice, fillL, mmAll, loadV, storeV, zeros, Am.rowAt, Am.part, addOff, Nat.reduceAdd, Nat.reduceMul, Nat.reduceLeDiff, Nat.reduceSub, Nat.reduceLT, Int.reduceEq, Int.reduceLT, Int.reduceLE, Int.reduceGT, Int.reduceGE, Int.reduceAdd, Int.reduceSub, Int.reduceMul, Int.reduceNeg, Int.reduceToNat, reduceCtorEq, reduceIte]
  by_cases hlt : (i : Int) ≤ 20
  case pos =>
    have vi := inWd_valid hv (x := (i : Int)) (by omega) hlt
    have Hi : NetOk (inWd n i) (slV 2 Spn.e (inWd n i).grips) (slV 2 Anc.e (inWd n i).ancs) (slV 5 Wal.e (inWd n i).walls) := ⟨slV_is, slV_is, slV_is, H.sg, H.sa, H.sw⟩
    have c1 := s98 H (i : Int)
    have c2 := fun st => s93 Hi vi st
    have qa := quiet_none vi
    have e1 : still (inWd n i) (calm (inWd n i)) = still n (inW (calm n) i) := rfl
    rw [e1] at qa
    have e : 21 - i = (21 - (i + 1)) + 1 := by omega
    rw [e, lwGo] at hg
    obtain ⟨n', hn'⟩ : ∃ n', n' = inWd n i := ⟨_, rfl⟩
    rw [← hn'] at qa
    simp only [← hn', netC, netV] at c1 c2
    obtain ⟨x, hx⟩ : ∃ x, x = ((truths n').filter (still n')).length := ⟨_, rfl⟩
    obtain ⟨y, hy⟩ : ∃ y, y = (truths n').length := ⟨_, rfl⟩
    rw [← hx] at qa
    simp only [← hx, ← hy] at c2
    cases hs : still n (inW (calm n) i)
    · rw [hs] at hg
      simp only [Bool.false_eq_true, if_false] at hg
      have lt := qa.2 hs
      simp (disch := first | assumption | omega | (simp only [az]; done)) only [ru, eq_self, if_true, if_false, BEq.rfl, binI, AO.row?, splice, fillL, mmAll, loadV, storeV, zeros, Am.rowAt, Am.part, addOff, Nat.reduceAdd, Nat.reduceMul, Nat.reduceLeDiff, Nat.reduceSub, Nat.reduceLT, Int.reduceEq, Int.reduceLT, Int.reduceLE, Int.reduceGT, Int.reduceGE, Int.reduceAdd, Int.reduceSub, Int.reduceMul, Int.reduceNeg, Int.reduceToNat, reduceCtorEq, reduceIte, lenV_sl H.g, lenV_sl H.a, lenV_sl H.w, elem_sl Spn.el H.g, elem_sl Anc.el H.a, elem_sl Wal.el H.w, view_sl H.g, view_sl H.a, view_sl H.w, scalar_sl H.g, scalar_sl H.a, scalar_sl H.w, cells_sl H.g, cells_sl H.a, cells_sl H.w, pure_sl H.g, pure_sl H.a, pure_sl H.w, Spn.e, Anc.e, Wal.e, Spn.eta, Anc.eta, Wal.eta, Int.toNat_natCast, hlt, c1, c2, slV_sc, slV_ce, slV_vi, slV_pu, lt]
      subst hg
      simp only [wv, we, if_neg (show ¬ (i : Int) > 20 by omega)]
    · rw [hs] at hg
      simp only [if_true] at hg
      have lt : ¬ (x : Int) = 0 := fun h => by rw [qa.1 h] at hs; cases hs
      simp (disch := first | assumption | omega | (simp only [az]; done)) only [ru, eq_self, if_true, if_false, BEq.rfl, binI, AO.row?, splice, fillL, mmAll, loadV, storeV, zeros, Am.rowAt, Am.part, addOff, Nat.reduceAdd, Nat.reduceMul, Nat.reduceLeDiff, Nat.reduceSub, Nat.reduceLT, Int.reduceEq, Int.reduceLT, Int.reduceLE, Int.reduceGT, Int.reduceGE, Int.reduceAdd, Int.reduceSub, Int.reduceMul, Int.reduceNeg, Int.reduceToNat, reduceCtorEq, reduceIte, lenV_sl H.g, lenV_sl H.a, lenV_sl H.w, elem_sl Spn.el H.g, elem_sl Anc.el H.a, elem_sl Wal.el H.w, view_sl H.g, view_sl H.a, view_sl H.w, scalar_sl H.g, scalar_sl H.a, scalar_sl H.w, cells_sl H.g, cells_sl H.a, cells_sl H.w, pure_sl H.g, pure_sl H.a, pure_sl H.w, Spn.e, Anc.e, Wal.e, Spn.eta, Anc.eta, Wal.eta, Int.toNat_natCast, hlt, c1, c2, slV_sc, slV_ce, slV_vi, slV_pu, lt]
      exact ih (21 - (i + 1)) _ _ _ (by omega) ⟨i + 1, by omega, rfl, hg, rfl, rfl, rfl, rfl, rfl⟩
  obtain rfl : i = 21 := by omega
  have hg' : r = 21 := by rw [← hg]; rfl
  subst hg'
  simp (disch := first | assumption | omega | (simp only [az]; done)) only [ru, eq_self, if_true, if_false, BEq.rfl, binI, AO.row?, splice, fillL, mmAll, loadV, storeV, zeros, Am.rowAt, Am.part, addOff, Nat.reduceAdd, Nat.reduceMul, Nat.reduceLeDiff, Nat.reduceSub, Nat.reduceLT, Int.reduceEq, Int.reduceLT, Int.reduceLE, Int.reduceGT, Int.reduceGE, Int.reduceAdd, Int.reduceSub, Int.reduceMul, Int.reduceNeg, Int.reduceToNat, reduceCtorEq, reduceIte, hlt]
  rfl

theorem s5 {n : Net} {g a w : AV} (H0 : NetIn n g a w) (x : Int) (st : Bool) : Iso E 5 [netV n g a w, I x] st = some (Bo true) := by
  refine Iso_of (es _ _ _ _) e5 ?_
  simp only [f5, netV]
  by_cases hs : smallN n
  case neg =>
    simp (disch := first | assumption | omega | (simp only [az]; done)) only [ru, eq_self, if_true, if_false, BEq.rfl, binI, AO.row?, splice, fillL, mmAll, loadV, storeV, zeros, Am.rowAt, Am.part, addOff, Nat.reduceAdd, Nat.reduceMul, Nat.reduceLeDiff, Nat.reduceSub, Nat.reduceLT, Int.reduceEq, Int.reduceLT, Int.reduceLE, Int.reduceGT, Int.reduceGE, Int.reduceAdd, Int.reduceSub, Int.reduceMul, Int.reduceNeg, Int.reduceToNat, reduceCtorEq, reduceIte, s36h H0 hs, view_sl H0.g, view_sl H0.a, view_sl H0.w, s16]
  have H : NetOk n g a w := ⟨H0.g, H0.a, H0.w, hs.1, hs.2.1, hs.2.2⟩
  cases hm : (n.valid && manyB n)
  case true =>
    simp (disch := first | assumption | omega | (simp only [az]; done)) only [ru, eq_self, if_true, if_false, BEq.rfl, binI, AO.row?, splice, fillL, mmAll, loadV, storeV, zeros, Am.rowAt, Am.part, addOff, Nat.reduceAdd, Nat.reduceMul, Nat.reduceLeDiff, Nat.reduceSub, Nat.reduceLT, Int.reduceEq, Int.reduceLT, Int.reduceLE, Int.reduceGT, Int.reduceGE, Int.reduceAdd, Int.reduceSub, Int.reduceMul, Int.reduceNeg, Int.reduceToNat, reduceCtorEq, reduceIte, lenV_sl H.g, lenV_sl H.a, lenV_sl H.w, elem_sl Spn.el H.g, elem_sl Anc.el H.a, elem_sl Wal.el H.w, view_sl H.g, view_sl H.a, view_sl H.w, scalar_sl H.g, scalar_sl H.a, scalar_sl H.w, cells_sl H.g, cells_sl H.a, cells_sl H.w, pure_sl H.g, pure_sl H.a, pure_sl H.w, Spn.e, Anc.e, Wal.e, Spn.eta, Anc.eta, Wal.eta, Int.toNat_natCast, s36 H, hm, s16]
  have C := H.c
  have c1 := fun st => s37a C x st
  have c2 := fun st => s38 H x st
  have c3 := fun st => s39a C st
  have c4 := fun st => s40 H st
  have c5 := fun st => s41a C x st
  have c6 := fun st => s42 H x st
  obtain ⟨p, hp⟩ : ∃ p, p = dragA n x := ⟨_, rfl⟩
  obtain ⟨q, hq⟩ : ∃ q, q = safeA n := ⟨_, rfl⟩
  obtain ⟨r, hr⟩ : ∃ r, r = spareA n x := ⟨_, rfl⟩
  simp only [← hp] at c1 c2
  simp only [← hq] at c3 c4
  simp only [← hr] at c5 c6
  simp only [netV] at c1 c2 c3 c4 c5 c6
  simp (disch := first | assumption | omega | (simp only [az]; done)) only [ru, eq_self, if_true, if_false, BEq.rfl, binI, AO.row?, splice, fillL, mmAll, loadV, storeV, zeros, Am.rowAt, Am.part, addOff, Nat.reduceAdd, Nat.reduceMul, Nat.reduceLeDiff, Nat.reduceSub, Nat.reduceLT, Int.reduceEq, Int.reduceLT, Int.reduceLE, Int.reduceGT, Int.reduceGE, Int.reduceAdd, Int.reduceSub, Int.reduceMul, Int.reduceNeg, Int.reduceToNat, reduceCtorEq, reduceIte, lenV_sl H.g, lenV_sl H.a, lenV_sl H.w, elem_sl Spn.el H.g, elem_sl Anc.el H.a, elem_sl Wal.el H.w, view_sl H.g, view_sl H.a, view_sl H.w, scalar_sl H.g, scalar_sl H.a, scalar_sl H.w, cells_sl H.g, cells_sl H.a, cells_sl H.w, pure_sl H.g, pure_sl H.a, pure_sl H.w, Spn.e, Anc.e, Wal.e, Spn.eta, Anc.eta, Wal.eta, Int.toNat_natCast, s36 H, hm, s17 H, slV_sc, slV_ce, slV_vi, slV_pu, c1, c2, c3, c4, c5, c6, s24 C H, s16]
theorem s6 {n : Net} {g a w : AV} (H0 : NetIn n g a w) (st : Bool) : Iso E 6 [netV n g a w] st = some (Bo true) := by
  refine Iso_of (es _ _ _ _) e6 ?_
  simp only [f6, netV]
  by_cases hs : smallN n
  case neg =>
    simp (disch := first | assumption | omega | (simp only [az]; done)) only [ru, eq_self, if_true, if_false, BEq.rfl, binI, AO.row?, splice, fillL, mmAll, loadV, storeV, zeros, Am.rowAt, Am.part, addOff, Nat.reduceAdd, Nat.reduceMul, Nat.reduceLeDiff, Nat.reduceSub, Nat.reduceLT, Int.reduceEq, Int.reduceLT, Int.reduceLE, Int.reduceGT, Int.reduceGE, Int.reduceAdd, Int.reduceSub, Int.reduceMul, Int.reduceNeg, Int.reduceToNat, reduceCtorEq, reduceIte, s36h H0 hs, view_sl H0.g, view_sl H0.a, view_sl H0.w, s16]
  have H : NetOk n g a w := ⟨H0.g, H0.a, H0.w, hs.1, hs.2.1, hs.2.2⟩
  cases hm : (n.valid && manyB n)
  case true =>
    simp (disch := first | assumption | omega | (simp only [az]; done)) only [ru, eq_self, if_true, if_false, BEq.rfl, binI, AO.row?, splice, fillL, mmAll, loadV, storeV, zeros, Am.rowAt, Am.part, addOff, Nat.reduceAdd, Nat.reduceMul, Nat.reduceLeDiff, Nat.reduceSub, Nat.reduceLT, Int.reduceEq, Int.reduceLT, Int.reduceLE, Int.reduceGT, Int.reduceGE, Int.reduceAdd, Int.reduceSub, Int.reduceMul, Int.reduceNeg, Int.reduceToNat, reduceCtorEq, reduceIte, lenV_sl H.g, lenV_sl H.a, lenV_sl H.w, elem_sl Spn.el H.g, elem_sl Anc.el H.a, elem_sl Wal.el H.w, view_sl H.g, view_sl H.a, view_sl H.w, scalar_sl H.g, scalar_sl H.a, scalar_sl H.w, cells_sl H.g, cells_sl H.a, cells_sl H.w, pure_sl H.g, pure_sl H.a, pure_sl H.w, Spn.e, Anc.e, Wal.e, Spn.eta, Anc.eta, Wal.eta, Int.toNat_natCast, s36 H, hm, s16]
  have C := H.c
  have c1 := fun st => s43a C st
  have c2 := fun st => s44 H st
  have c3 := fun st => s45a C st
  have c4 := fun st => s46 H st
  obtain ⟨p, hp⟩ : ∃ p, p = windA n := ⟨_, rfl⟩
  obtain ⟨q, hq⟩ : ∃ q, q = stormA n := ⟨_, rfl⟩
  simp only [← hp] at c1 c2
  simp only [← hq] at c3 c4
  simp only [netV] at c1 c2 c3 c4
  simp (disch := first | assumption | omega | (simp only [az]; done)) only [ru, eq_self, if_true, if_false, BEq.rfl, binI, AO.row?, splice, fillL, mmAll, loadV, storeV, zeros, Am.rowAt, Am.part, addOff, Nat.reduceAdd, Nat.reduceMul, Nat.reduceLeDiff, Nat.reduceSub, Nat.reduceLT, Int.reduceEq, Int.reduceLT, Int.reduceLE, Int.reduceGT, Int.reduceGE, Int.reduceAdd, Int.reduceSub, Int.reduceMul, Int.reduceNeg, Int.reduceToNat, reduceCtorEq, reduceIte, lenV_sl H.g, lenV_sl H.a, lenV_sl H.w, elem_sl Spn.el H.g, elem_sl Anc.el H.a, elem_sl Wal.el H.w, view_sl H.g, view_sl H.a, view_sl H.w, scalar_sl H.g, scalar_sl H.a, scalar_sl H.w, cells_sl H.g, cells_sl H.a, cells_sl H.w, pure_sl H.g, pure_sl H.a, pure_sl H.w, Spn.e, Anc.e, Wal.e, Spn.eta, Anc.eta, Wal.eta, Int.toNat_natCast, s36 H, hm, s17 H, slV_sc, slV_ce, slV_vi, slV_pu, c1, c2, c3, c4, s24 C H, s16]
end Go.Proofs.Ytpflneddfhifkaa.S
