/-
What the specification knows of all truths is what the program says.
-/
import Derived.Test.YtpflneddfhifkaaHw
namespace Go.Proofs.Ytpflneddfhifkaa.S
open Go Go.Am Go.Proofs.Ytpflneddfhifkaa.T
set_option maxRecDepth 100000
set_option linter.unusedSimpArgs false
set_option linter.unusedVariables false

/-- how many of the first i are such -/
def cntT (p : Tru → Bool) (T : List Tru) (i : Nat) : Nat := ((T.take i).filter p).length
theorem cntT_succ {p : Tru → Bool} {T : List Tru} {i : Nat} (h : i < T.length) : cntT p T (i + 1) = cntT p T i + if p (T.getD i default) then 1 else 0 := by
  unfold cntT
  rw [List.take_succ_eq_append_getElem h, List.filter_append, List.length_append]
  simp only [List.getD_eq_getElem?_getD, List.getElem?_eq_getElem h, Option.getD_some]
  by_cases hp : p T[i] = true <;> simp [hp]
theorem cntT_le {p : Tru → Bool} {T : List Tru} {i : Nat} : cntT p T i ≤ i := by
  unfold cntT
  exact Nat.le_trans (List.length_filter_le _ _) (by simp; omega)
theorem cntT_all {p : Tru → Bool} {T : List Tru} : cntT p T T.length = (T.filter p).length := by unfold cntT; rw [List.take_length]

/-- what is known, from the worst truth and the best one -/
theorem known_of {p : Tru → Bool} {T : List Tru} {a b : Tru} (ha : a ∈ T) (hb : b ∈ T) (h1 : p a = true → ∀ t ∈ T, p t = true) (h2 : ∀ t ∈ T, p t = true → p b = true) :
    knownI ((T.filter p).length : Nat) (T.length : Nat) = if p a then 1 else if p b then 3 else 2 := by
  have hT : 0 < T.length := List.length_pos_of_mem ha
  unfold knownI
  by_cases pa : p a = true
  · have e : T.filter p = T := List.filter_eq_self.2 (h1 pa)
    rw [e, if_pos pa, if_neg (by omega), if_pos rfl]
  · rw [if_neg pa]
    have lt : (T.filter p).length < T.length := by
      apply Nat.lt_of_le_of_ne (List.length_filter_le _ _)
      intro e
      have := List.length_filter_eq_length_iff.1 e a ha
      exact pa this
    by_cases pb : p b = true
    · have : 0 < (T.filter p).length := List.length_pos_of_mem (List.mem_filter.2 ⟨hb, pb⟩)
      rw [if_pos pb, if_neg (by omega), if_neg (by omega)]
    · have e : T.filter p = [] := List.filter_eq_nil_iff.2 fun t ht hp => pb (h2 t ht hp)
      rw [e, if_neg pb]; simp

theorem truths_le {n : Net} (hv : n.valid = true) : (truths n).length ≤ 441000 := by
  have := trW_le hv (k := spanN n.wind)
  have := (span_le hv).2.1
  unfold truths; omega
theorem truths_at {n : Net} (hv : n.valid = true) {i : Nat} (hi : i < (truths n).length) : Good n ((truths n).getD i default) := truths_good hv (getD_mem hi)

theorem s93 {n : Net} {g a w : AV} (H : NetOk n g a w) (hv : n.valid = true) (st : Bool) : Iso E 93 [netV n g a w] st = some (.tup [I ((truths n).filter (still n)).length, I (truths n).length]) := by
  have q := s91 H hv
  have tl := truths_le hv
  have at' := fun i hi => truths_at (n := n) (i := i) hv hi
  have lg := (netB hv).lg
  obtain ⟨T, hT⟩ : ∃ T, T = truths n := ⟨_, rfl⟩
  rw [← hT] at q tl ⊢
  simp only [← hT] at at'
  have LT : IsSl 3 Tru.e T (slV 3 Tru.e T) := slV_is
  refine Iso_of (es _ _ _ _) e93 ?_
  simp only [f93, netV]
  simp only [netV] at q
  simp (disch := first | assumption | omega | (simp only [az]; done)) only [ru, eq_self, if_true, if_false, BEq.rfl, binI, AO.row?, splice, fillL, mmAll, loadV, storeV, zeros, Am.rowAt, Am.part, addOff, Nat.reduceAdd, Nat.reduceMul, Nat.reduceLeDiff, Nat.reduceSub, Nat.reduceLT, Int.reduceEq, Int.reduceLT, Int.reduceLE, Int.reduceGT, Int.reduceGE, Int.reduceAdd, Int.reduceSub, Int.reduceMul, Int.reduceNeg, Int.reduceToNat, reduceCtorEq, reduceIte, lenV_sl H.g, lenV_sl H.a, lenV_sl H.w, elem_sl Spn.el H.g, elem_sl Anc.el H.a, elem_sl Wal.el H.w, view_sl H.g, view_sl H.a, view_sl H.w, scalar_sl H.g, scalar_sl H.a, scalar_sl H.w, cells_sl H.g, cells_sl H.a, cells_sl H.w, pure_sl H.g, pure_sl H.a, pure_sl H.w, Spn.e, Anc.e, Wal.e, Spn.eta, Anc.eta, Wal.eta, Int.toNat_natCast, q]
  refine G_loop_ind (fun m ts h mk => ∃ (i : Nat), i ≤ T.length ∧ m = T.length - i ∧ ts.length = 27 ∧ ts.getD 1 .undef = .ptr 0 0 ∧ ts.getD 2 .undef = I (cntT (still n) T i) ∧ ts.getD 4 .undef = slV 3 Tru.e T ∧ ts.getD 5 .undef = I i ∧ h = [.cells [I n.wind.lo, I n.wind.hi, I n.cur.lo, I n.cur.hi, g, a, w] false] ∧ mk = []) ?_ _ _ _ _
    ⟨0, Nat.zero_le _, rfl, rfl, rfl, rfl, rfl, rfl, rfl, rfl⟩
  rintro m ts h mk ih ⟨i, hi, rfl, hl, q1, q2, q4, q5, rfl, rfl⟩
  rw [lit_all hl]
  simp only [lit0, litS, Nat.reduceAdd, q1, q2, q4, q5]
  simp (disch := first | assumption | omega | (simp only [az]; done)) only [ru, eq_self, if_true, if_false, BEq.rfl, binI, AO.row?, splice, fillL, mmAll, loadV, storeV, zeros, Am.rowAt, Am.part, addOff, Nat.reduceAdd, Nat.reduceMul, Nat.reduceLeDiff, Nat.reduceSub, Nat.reduceLT, Int.reduceEq, Int.reduceLT, Int.reduceLE, Int.reduceGT, Int.reduceGE, Int.reduceAdd, Int.reduceSub, Int.reduceMul, Int.reduceNeg, Int.reduceToNat, reduceCtorEq, reduceIte, lenV_sl LT]
  by_cases hlt : (i : Int) < T.length
  case pos =>
    have hi' : i < T.length := by omega
    have G := at' i hi'
    obtain ⟨x, hx⟩ : ∃ x, x = T.getD i default := ⟨_, rfl⟩
    rw [← hx] at G
    have V : TruOk x (resL x.grips) := ⟨resL_is _, by have := G.b.2.2.1; omega⟩
    have c := fun st => s83 H V G.toFair nil0 (by simp) st
    have e : (fun (j : Nat) => anyIs [] (j : Int)) = none6 := rfl
    rw [e] at c
    have cs := cntT_succ (p := still n) (T := T) hi'
    have cl := cntT_le (p := still n) (T := T) (i := i)
    rw [← hx] at cs
    obtain ⟨L, hL⟩ : ∃ L, L = lst n (stepS n x none6) := ⟨_, rfl⟩
    simp only [← hL] at c
    have hst : still n x = decide ((L.length : Int) = 0) := by rw [hL]; rfl
    by_cases hz : (L.length : Int) = 0
    · rw [hst, decide_eq_true hz, if_pos rfl] at cs
      simp (disch := first | assumption | omega | (simp only [az]; done)) only [ru, eq_self, if_true, if_false, BEq.rfl, binI, AO.row?, splice, fillL, mmAll, loadV, storeV, zeros, Am.rowAt, Am.part, addOff, Nat.reduceAdd, Nat.reduceMul, Nat.reduceLeDiff, Nat.reduceSub, Nat.reduceLT, Int.reduceEq, Int.reduceLT, Int.reduceLE, Int.reduceGT, Int.reduceGE, Int.reduceAdd, Int.reduceSub, Int.reduceMul, Int.reduceNeg, Int.reduceToNat, reduceCtorEq, reduceIte, hlt, lenV_sl H.g, lenV_sl H.a, lenV_sl H.w, elem_sl Spn.el H.g, elem_sl Anc.el H.a, elem_sl Wal.el H.w, view_sl H.g, view_sl H.a, view_sl H.w, scalar_sl H.g, scalar_sl H.a, scalar_sl H.w, cells_sl H.g, cells_sl H.a, cells_sl H.w, pure_sl H.g, pure_sl H.a, pure_sl H.w, Spn.e, Anc.e, Wal.e, Spn.eta, Anc.eta, Wal.eta, Int.toNat_natCast, elem_sl Tru.el LT, Int.toNat_natCast, ← hx, Tru.e, resL_sc, resL_ce, resL_pu, resL_vi, c, lenV_sl (resL_is L), hz]
      exact ih (T.length - (i + 1)) _ _ _ (by omega) ⟨i + 1, by omega, rfl, rfl, rfl, by show I _ = I _; congr 1; omega, rfl, rfl, rfl, rfl⟩
    · rw [hst, decide_eq_false hz] at cs
      simp only [Bool.false_eq_true, if_false, Nat.add_zero] at cs
      simp (disch := first | assumption | omega | (simp only [az]; done)) only [ru, eq_self, if_true, if_false, BEq.rfl, binI, AO.row?, splice, fillL, mmAll, loadV, storeV, zeros, Am.rowAt, Am.part, addOff, Nat.reduceAdd, Nat.reduceMul, Nat.reduceLeDiff, Nat.reduceSub, Nat.reduceLT, Int.reduceEq, Int.reduceLT, Int.reduceLE, Int.reduceGT, Int.reduceGE, Int.reduceAdd, Int.reduceSub, Int.reduceMul, Int.reduceNeg, Int.reduceToNat, reduceCtorEq, reduceIte, hlt, lenV_sl H.g, lenV_sl H.a, lenV_sl H.w, elem_sl Spn.el H.g, elem_sl Anc.el H.a, elem_sl Wal.el H.w, view_sl H.g, view_sl H.a, view_sl H.w, scalar_sl H.g, scalar_sl H.a, scalar_sl H.w, cells_sl H.g, cells_sl H.a, cells_sl H.w, pure_sl H.g, pure_sl H.a, pure_sl H.w, Spn.e, Anc.e, Wal.e, Spn.eta, Anc.eta, Wal.eta, Int.toNat_natCast, elem_sl Tru.el LT, Int.toNat_natCast, ← hx, Tru.e, resL_sc, resL_ce, resL_pu, resL_vi, c, lenV_sl (resL_is L), hz]
      exact ih (T.length - (i + 1)) _ _ _ (by omega) ⟨i + 1, by omega, rfl, rfl, rfl, by show I _ = I _; rw [cs], rfl, rfl, rfl, rfl⟩
  obtain rfl : i = T.length := by omega
  simp (disch := first | assumption | omega | (simp only [az]; done)) only [ru, eq_self, if_true, if_false, BEq.rfl, binI, AO.row?, splice, fillL, mmAll, loadV, storeV, zeros, Am.rowAt, Am.part, addOff, Nat.reduceAdd, Nat.reduceMul, Nat.reduceLeDiff, Nat.reduceSub, Nat.reduceLT, Int.reduceEq, Int.reduceLT, Int.reduceLE, Int.reduceGT, Int.reduceGE, Int.reduceAdd, Int.reduceSub, Int.reduceMul, Int.reduceNeg, Int.reduceToNat, reduceCtorEq, reduceIte, hlt, lenV_sl LT]
  rw [cntT_all]

theorem safe_known {n : Net} (hv : n.valid = true) : knownI ((truths n).filter (still n)).length (truths n).length = safeR n :=
  known_of (rough_mem hv) (calm_mem hv) (fun h t ht => still_calmer (truths_good hv ht).toFair (rough_calmer (truths_good hv ht)) h)
    (fun t ht h => still_calmer (calm_good hv).toFair (calm_calmer (truths_good hv ht)) h)
def safeA (n : Net) : Int × Int := if n.valid then (safeR n, 0) else (0, 20)
theorem s40 {n : Net} {g a w : AV} (H : NetOk n g a w) (st : Bool) : Iso E 40 [netV n g a w] st = some (.tup [I (safeA n).1, I (safeA n).2]) := by
  refine Iso_of (es _ _ _ _) e40 ?_
  simp only [f40, netV]
  cases hv : n.valid
  · simp (disch := first | assumption | omega | (simp only [az]; done)) only [ru, eq_self, if_true, if_false, BEq.rfl, binI, AO.row?, splice, fillL, mmAll, loadV, storeV, zeros, Am.rowAt, Am.part, addOff, Nat.reduceAdd, Nat.reduceMul, Nat.reduceLeDiff, Nat.reduceSub, Nat.reduceLT, Int.reduceEq, Int.reduceLT, Int.reduceLE, Int.reduceGT, Int.reduceGE, Int.reduceAdd, Int.reduceSub, Int.reduceMul, Int.reduceNeg, Int.reduceToNat, reduceCtorEq, reduceIte, lenV_sl H.g, lenV_sl H.a, lenV_sl H.w, elem_sl Spn.el H.g, elem_sl Anc.el H.a, elem_sl Wal.el H.w, view_sl H.g, view_sl H.a, view_sl H.w, scalar_sl H.g, scalar_sl H.a, scalar_sl H.w, cells_sl H.g, cells_sl H.a, cells_sl H.w, pure_sl H.g, pure_sl H.a, pure_sl H.w, Spn.e, Anc.e, Wal.e, Spn.eta, Anc.eta, Wal.eta, Int.toNat_natCast, s19 H, hv]
    simp only [safeA, hv, Bool.false_eq_true, if_false]
  · have q := fun st => s93 H hv st
    have k := safe_known hv
    obtain ⟨x, hx⟩ : ∃ x, x = ((truths n).filter (still n)).length := ⟨_, rfl⟩
    obtain ⟨y, hy⟩ : ∃ y, y = (truths n).length := ⟨_, rfl⟩
    rw [← hx, ← hy] at k
    simp only [← hx, ← hy] at q
    simp (disch := first | assumption | omega | (simp only [az]; done)) only [ru, eq_self, if_true, if_false, BEq.rfl, binI, AO.row?, splice, fillL, mmAll, loadV, storeV, zeros, Am.rowAt, Am.part, addOff, Nat.reduceAdd, Nat.reduceMul, Nat.reduceLeDiff, Nat.reduceSub, Nat.reduceLT, Int.reduceEq, Int.reduceLT, Int.reduceLE, Int.reduceGT, Int.reduceGE, Int.reduceAdd, Int.reduceSub, Int.reduceMul, Int.reduceNeg, Int.reduceToNat, reduceCtorEq, reduceIte, lenV_sl H.g, lenV_sl H.a, lenV_sl H.w, elem_sl Spn.el H.g, elem_sl Anc.el H.a, elem_sl Wal.el H.w, view_sl H.g, view_sl H.a, view_sl H.w, scalar_sl H.g, scalar_sl H.a, scalar_sl H.w, cells_sl H.g, cells_sl H.a, cells_sl H.w, pure_sl H.g, pure_sl H.a, pure_sl H.w, Spn.e, Anc.e, Wal.e, Spn.eta, Anc.eta, Wal.eta, Int.toNat_natCast, s19 H, hv, q, s78, k]
    simp only [safeA, hv, if_true]
theorem s39a {n : Net} {g a w : AV} (H : NetOk n g a w) (st : Bool) : Iso E 39 [netV n g a w] st = some (.tup [I (safeA n).1, I (safeA n).2]) := by
  cases hv : n.valid
  · refine Iso_of (es _ _ _ _) e39 ?_
    simp only [f39, netV]
    simp (disch := first | assumption | omega | (simp only [az]; done)) only [ru, eq_self, if_true, if_false, BEq.rfl, binI, AO.row?, splice, fillL, mmAll, loadV, storeV, zeros, Am.rowAt, Am.part, addOff, Nat.reduceAdd, Nat.reduceMul, Nat.reduceLeDiff, Nat.reduceSub, Nat.reduceLT, Int.reduceEq, Int.reduceLT, Int.reduceLE, Int.reduceGT, Int.reduceGE, Int.reduceAdd, Int.reduceSub, Int.reduceMul, Int.reduceNeg, Int.reduceToNat, reduceCtorEq, reduceIte, lenV_sl H.g, lenV_sl H.a, lenV_sl H.w, elem_sl Spn.el H.g, elem_sl Anc.el H.a, elem_sl Wal.el H.w, view_sl H.g, view_sl H.a, view_sl H.w, scalar_sl H.g, scalar_sl H.a, scalar_sl H.w, cells_sl H.g, cells_sl H.a, cells_sl H.w, pure_sl H.g, pure_sl H.a, pure_sl H.w, Spn.e, Anc.e, Wal.e, Spn.eta, Anc.eta, Wal.eta, Int.toNat_natCast, s18 H, hv]
    simp only [safeA, hv, Bool.false_eq_true, if_false]
  · rw [s39 H hv]; simp only [safeA, hv, if_true]

theorem drag_known {n : Net} (hv : n.valid = true) {k : Nat} (hk : k < n.ancs.length) : knownI ((truths n).filter fun t => lfp n t none6 k).length (truths n).length = dragR n k (lfp n (calm n) none6 k) (lfp n (rough n) none6 k) :=
  known_of (p := fun t => lfp n t none6 k) (calm_mem hv) (rough_mem hv) (fun h t ht => lfp_calmer (calm_good hv).toFair (truths_good hv ht).toFair (calm_calmer (truths_good hv ht)) k hk h)
    (fun t ht h => lfp_calmer (truths_good hv ht).toFair (rough_good hv).toFair (rough_calmer (truths_good hv ht)) k hk h)
noncomputable def dragA (n : Net) (x : Int) : Int × Int := if n.valid then (if inR x 0 ((n.ancs.length : Int) - 1) then (dragR n x.toNat (lfp n (calm n) none6 x.toNat) (lfp n (rough n) none6 x.toNat), 0) else (0, 1)) else (0, 20)
theorem s38 {n : Net} {g a w : AV} (H : NetOk n g a w) (x : Int) (st : Bool) : Iso E 38 [netV n g a w, I x] st = some (.tup [I (dragA n x).1, I (dragA n x).2]) := by
  have sa := H.sa
  refine Iso_of (es _ _ _ _) e38 ?_
  simp only [f38, netV]
  cases hv : n.valid
  · simp (disch := first | assumption | omega | (simp only [az]; done)) only [ru, eq_self, if_true, if_false, BEq.rfl, binI, AO.row?, splice, fillL, mmAll, loadV, storeV, zeros, Am.rowAt, Am.part, addOff, Nat.reduceAdd, Nat.reduceMul, Nat.reduceLeDiff, Nat.reduceSub, Nat.reduceLT, Int.reduceEq, Int.reduceLT, Int.reduceLE, Int.reduceGT, Int.reduceGE, Int.reduceAdd, Int.reduceSub, Int.reduceMul, Int.reduceNeg, Int.reduceToNat, reduceCtorEq, reduceIte, lenV_sl H.g, lenV_sl H.a, lenV_sl H.w, elem_sl Spn.el H.g, elem_sl Anc.el H.a, elem_sl Wal.el H.w, view_sl H.g, view_sl H.a, view_sl H.w, scalar_sl H.g, scalar_sl H.a, scalar_sl H.w, cells_sl H.g, cells_sl H.a, cells_sl H.w, pure_sl H.g, pure_sl H.a, pure_sl H.w, Spn.e, Anc.e, Wal.e, Spn.eta, Anc.eta, Wal.eta, Int.toNat_natCast, s57 H, s72 H, hv]
    simp only [dragA, hv, Bool.false_eq_true, if_false]
  cases hx : inR x 0 ((n.ancs.length : Int) - 1)
  · simp (disch := first | assumption | omega | (simp only [az]; done)) only [ru, eq_self, if_true, if_false, BEq.rfl, binI, AO.row?, splice, fillL, mmAll, loadV, storeV, zeros, Am.rowAt, Am.part, addOff, Nat.reduceAdd, Nat.reduceMul, Nat.reduceLeDiff, Nat.reduceSub, Nat.reduceLT, Int.reduceEq, Int.reduceLT, Int.reduceLE, Int.reduceGT, Int.reduceGE, Int.reduceAdd, Int.reduceSub, Int.reduceMul, Int.reduceNeg, Int.reduceToNat, reduceCtorEq, reduceIte, lenV_sl H.g, lenV_sl H.a, lenV_sl H.w, elem_sl Spn.el H.g, elem_sl Anc.el H.a, elem_sl Wal.el H.w, view_sl H.g, view_sl H.a, view_sl H.w, scalar_sl H.g, scalar_sl H.a, scalar_sl H.w, cells_sl H.g, cells_sl H.a, cells_sl H.w, pure_sl H.g, pure_sl H.a, pure_sl H.w, Spn.e, Anc.e, Wal.e, Spn.eta, Anc.eta, Wal.eta, Int.toNat_natCast, s57 H, s72 H, hv, hx]
    simp only [dragA, hv, hx, Bool.false_eq_true, if_false, if_true]
  have hx' := inR_iff.1 hx
  obtain ⟨k, rfl⟩ : ∃ k : Nat, x = k := ⟨x.toNat, by omega⟩
  have hk : k < n.ancs.length := by omega
  have kn := drag_known hv hk
  have dA : dragA n k = (dragR n k (lfp n (calm n) none6 k) (lfp n (rough n) none6 k), 0) := by simp only [dragA, hv, hx, if_true, Int.toNat_natCast]
  rw [dA, ← kn]
  clear dA kn
  have q := s91 H hv
  have tl := truths_le hv
  have at' := fun i hi => truths_at (n := n) (i := i) hv hi
  have lg := (netB hv).lg
  obtain ⟨T, hT⟩ : ∃ T, T = truths n := ⟨_, rfl⟩
  rw [← hT] at q tl ⊢
  simp only [← hT] at at'
  have LT : IsSl 3 Tru.e T (slV 3 Tru.e T) := slV_is
  simp only [netV] at q
  obtain ⟨p, hp⟩ : ∃ p : Tru → Bool, p = fun t => lfp n t none6 k := ⟨_, rfl⟩
  rw [← hp]
  simp (disch := first | assumption | omega | (simp only [az]; done)) only [ru, eq_self, if_true, if_false, BEq.rfl, binI, AO.row?, splice, fillL, mmAll, loadV, storeV, zeros, Am.rowAt, Am.part, addOff, Nat.reduceAdd, Nat.reduceMul, Nat.reduceLeDiff, Nat.reduceSub, Nat.reduceLT, Int.reduceEq, Int.reduceLT, Int.reduceLE, Int.reduceGT, Int.reduceGE, Int.reduceAdd, Int.reduceSub, Int.reduceMul, Int.reduceNeg, Int.reduceToNat, reduceCtorEq, reduceIte, lenV_sl H.g, lenV_sl H.a, lenV_sl H.w, elem_sl Spn.el H.g, elem_sl Anc.el H.a, elem_sl Wal.el H.w, view_sl H.g, view_sl H.a, view_sl H.w, scalar_sl H.g, scalar_sl H.a, scalar_sl H.w, cells_sl H.g, cells_sl H.a, cells_sl H.w, pure_sl H.g, pure_sl H.a, pure_sl H.w, Spn.e, Anc.e, Wal.e, Spn.eta, Anc.eta, Wal.eta, Int.toNat_natCast, s57 H, s72 H, hv, hx, q]
  refine G_loop_ind (fun m ts h mk => ∃ (i : Nat), i ≤ T.length ∧ m = T.length - i ∧ ts.length = 40 ∧ ts.getD 1 .undef = I k ∧ ts.getD 2 .undef = .ptr 0 0 ∧ ts.getD 7 .undef = slV 3 Tru.e T ∧ ts.getD 8 .undef = I (cntT p T i) ∧ ts.getD 9 .undef = I i ∧ h = [.cells [I n.wind.lo, I n.wind.hi, I n.cur.lo, I n.cur.hi, g, a, w] false] ∧ mk = []) ?_ _ _ _ _
    ⟨0, Nat.zero_le _, rfl, rfl, rfl, rfl, rfl, rfl, rfl, rfl, rfl⟩
  rintro m ts h mk ih ⟨i, hi, rfl, hl, q1, q2, q7, q8, q9, rfl, rfl⟩
  rw [lit_all hl]
  simp only [lit0, litS, Nat.reduceAdd, q1, q2, q7, q8, q9]
  simp (disch := first | assumption | omega | (simp only [az]; done)) only [ru, eq_self, if_true, if_false, BEq.rfl, binI, AO.row?, splice, fillL, mmAll, loadV, storeV, zeros, Am.rowAt, Am.part, addOff, Nat.reduceAdd, Nat.reduceMul, Nat.reduceLeDiff, Nat.reduceSub, Nat.reduceLT, Int.reduceEq, Int.reduceLT, Int.reduceLE, Int.reduceGT, Int.reduceGE, Int.reduceAdd, Int.reduceSub, Int.reduceMul, Int.reduceNeg, Int.reduceToNat, reduceCtorEq, reduceIte, lenV_sl LT]
  by_cases hlt : (i : Int) < T.length
  case pos =>
    have hi' : i < T.length := by omega
    have G := at' i hi'
    obtain ⟨y, hy⟩ : ∃ y, y = T.getD i default := ⟨_, rfl⟩
    rw [← hy] at G
    have V : TruOk y (resL y.grips) := ⟨resL_is _, by have := G.b.2.2.1; omega⟩
    have c := s85' H V G.toFair none6 (d := .nils) (by rw [lst_none]; exact nil0)
    have cs := cntT_succ (p := p) (T := T) hi'
    have cl := cntT_le (p := p) (T := T) (i := i)
    rw [← hy] at cs
    have ll := lst_le (n := n) (D := lfp n y none6)
    have inK := any_lst (n := n) (S := lfp n y none6) hk
    obtain ⟨L, hL⟩ : ∃ L, L = lst n (lfp n y none6) := ⟨_, rfl⟩
    rw [← hL] at c inK ll
    have c2 := fun x st => s56 (resL_is L) (by omega) x st
    have hpy : p y = lfp n y none6 k := by rw [hp]
    rw [← hpy] at inK
    cases hb : p y
    · rw [hb] at cs inK
      simp only [Bool.false_eq_true, if_false, Nat.add_zero] at cs
      simp (disch := first | assumption | omega | (simp only [az]; done)) only [ru, eq_self, if_true, if_false, BEq.rfl, binI, AO.row?, splice, fillL, mmAll, loadV, storeV, zeros, Am.rowAt, Am.part, addOff, Nat.reduceAdd, Nat.reduceMul, Nat.reduceLeDiff, Nat.reduceSub, Nat.reduceLT, Int.reduceEq, Int.reduceLT, Int.reduceLE, Int.reduceGT, Int.reduceGE, Int.reduceAdd, Int.reduceSub, Int.reduceMul, Int.reduceNeg, Int.reduceToNat, reduceCtorEq, reduceIte, hlt, lenV_sl H.g, lenV_sl H.a, lenV_sl H.w, elem_sl Spn.el H.g, elem_sl Anc.el H.a, elem_sl Wal.el H.w, view_sl H.g, view_sl H.a, view_sl H.w, scalar_sl H.g, scalar_sl H.a, scalar_sl H.w, cells_sl H.g, cells_sl H.a, cells_sl H.w, pure_sl H.g, pure_sl H.a, pure_sl H.w, Spn.e, Anc.e, Wal.e, Spn.eta, Anc.eta, Wal.eta, Int.toNat_natCast, elem_sl Tru.el LT, Int.toNat_natCast, ← hy, Tru.e, resL_sc, resL_ce, resL_pu, resL_vi, c, c2, inK]
      exact ih (T.length - (i + 1)) _ _ _ (by omega) ⟨i + 1, by omega, rfl, rfl, rfl, rfl, rfl, by show I _ = I _; rw [cs], rfl, rfl, rfl⟩
    · rw [hb] at cs inK
      simp only [if_true] at cs
      simp (disch := first | assumption | omega | (simp only [az]; done)) only [ru, eq_self, if_true, if_false, BEq.rfl, binI, AO.row?, splice, fillL, mmAll, loadV, storeV, zeros, Am.rowAt, Am.part, addOff, Nat.reduceAdd, Nat.reduceMul, Nat.reduceLeDiff, Nat.reduceSub, Nat.reduceLT, Int.reduceEq, Int.reduceLT, Int.reduceLE, Int.reduceGT, Int.reduceGE, Int.reduceAdd, Int.reduceSub, Int.reduceMul, Int.reduceNeg, Int.reduceToNat, reduceCtorEq, reduceIte, hlt, lenV_sl H.g, lenV_sl H.a, lenV_sl H.w, elem_sl Spn.el H.g, elem_sl Anc.el H.a, elem_sl Wal.el H.w, view_sl H.g, view_sl H.a, view_sl H.w, scalar_sl H.g, scalar_sl H.a, scalar_sl H.w, cells_sl H.g, cells_sl H.a, cells_sl H.w, pure_sl H.g, pure_sl H.a, pure_sl H.w, Spn.e, Anc.e, Wal.e, Spn.eta, Anc.eta, Wal.eta, Int.toNat_natCast, elem_sl Tru.el LT, Int.toNat_natCast, ← hy, Tru.e, resL_sc, resL_ce, resL_pu, resL_vi, c, c2, inK]
      exact ih (T.length - (i + 1)) _ _ _ (by omega) ⟨i + 1, by omega, rfl, rfl, rfl, rfl, rfl, by show I _ = I _; congr 1; omega, rfl, rfl, rfl⟩
  obtain rfl : i = T.length := by omega
  simp (disch := first | assumption | omega | (simp only [az]; done)) only [ru, eq_self, if_true, if_false, BEq.rfl, binI, AO.row?, splice, fillL, mmAll, loadV, storeV, zeros, Am.rowAt, Am.part, addOff, Nat.reduceAdd, Nat.reduceMul, Nat.reduceLeDiff, Nat.reduceSub, Nat.reduceLT, Int.reduceEq, Int.reduceLT, Int.reduceLE, Int.reduceGT, Int.reduceGE, Int.reduceAdd, Int.reduceSub, Int.reduceMul, Int.reduceNeg, Int.reduceToNat, reduceCtorEq, reduceIte, hlt, lenV_sl LT, s78]
  rw [cntT_all]
theorem s37a {n : Net} {g a w : AV} (H : NetOk n g a w) (x : Int) (st : Bool) : Iso E 37 [netV n g a w, I x] st = some (.tup [I (dragA n x).1, I (dragA n x).2]) := by
  cases hv : n.valid
  · refine Iso_of (es _ _ _ _) e37 ?_
    simp only [f37, netV]
    simp (disch := first | assumption | omega | (simp only [az]; done)) only [ru, eq_self, if_true, if_false, BEq.rfl, binI, AO.row?, splice, fillL, mmAll, loadV, storeV, zeros, Am.rowAt, Am.part, addOff, Nat.reduceAdd, Nat.reduceMul, Nat.reduceLeDiff, Nat.reduceSub, Nat.reduceLT, Int.reduceEq, Int.reduceLT, Int.reduceLE, Int.reduceGT, Int.reduceGE, Int.reduceAdd, Int.reduceSub, Int.reduceMul, Int.reduceNeg, Int.reduceToNat, reduceCtorEq, reduceIte, lenV_sl H.g, lenV_sl H.a, lenV_sl H.w, elem_sl Spn.el H.g, elem_sl Anc.el H.a, elem_sl Wal.el H.w, view_sl H.g, view_sl H.a, view_sl H.w, scalar_sl H.g, scalar_sl H.a, scalar_sl H.w, cells_sl H.g, cells_sl H.a, cells_sl H.w, pure_sl H.g, pure_sl H.a, pure_sl H.w, Spn.e, Anc.e, Wal.e, Spn.eta, Anc.eta, Wal.eta, Int.toNat_natCast, s86 H, s68 H, hv]
    simp only [dragA, hv, Bool.false_eq_true, if_false]
  cases hx : inR x 0 ((n.ancs.length : Int) - 1)
  · refine Iso_of (es _ _ _ _) e37 ?_
    simp only [f37, netV]
    simp (disch := first | assumption | omega | (simp only [az]; done)) only [ru, eq_self, if_true, if_false, BEq.rfl, binI, AO.row?, splice, fillL, mmAll, loadV, storeV, zeros, Am.rowAt, Am.part, addOff, Nat.reduceAdd, Nat.reduceMul, Nat.reduceLeDiff, Nat.reduceSub, Nat.reduceLT, Int.reduceEq, Int.reduceLT, Int.reduceLE, Int.reduceGT, Int.reduceGE, Int.reduceAdd, Int.reduceSub, Int.reduceMul, Int.reduceNeg, Int.reduceToNat, reduceCtorEq, reduceIte, lenV_sl H.g, lenV_sl H.a, lenV_sl H.w, elem_sl Spn.el H.g, elem_sl Anc.el H.a, elem_sl Wal.el H.w, view_sl H.g, view_sl H.a, view_sl H.w, scalar_sl H.g, scalar_sl H.a, scalar_sl H.w, cells_sl H.g, cells_sl H.a, cells_sl H.w, pure_sl H.g, pure_sl H.a, pure_sl H.w, Spn.e, Anc.e, Wal.e, Spn.eta, Anc.eta, Wal.eta, Int.toNat_natCast, s86 H, s68 H, hv, hx]
    simp only [dragA, hv, hx, Bool.false_eq_true, if_false, if_true]
  have hx' := inR_iff.1 hx
  obtain ⟨k, rfl⟩ : ∃ k : Nat, x = k := ⟨x.toNat, by omega⟩
  rw [s37 H hv (i := k) (by omega)]
  simp only [dragA, hv, hx, if_true, Int.toNat_natCast]
end Go.Proofs.Ytpflneddfhifkaa.S
