/-
The anchor that should be heavier, as the program and as the specification find it; the law of stage 2 on it.
-/
import Derived.Test.YtpflneddfhifkaaHz
namespace Go.Proofs.Ytpflneddfhifkaa.S
open Go Go.Am Go.Proofs.Ytpflneddfhifkaa.T
set_option maxRecDepth 100000
set_option linter.unusedSimpArgs false
set_option linter.unusedVariables false

theorem r120 {l : List Anc} {a : AV} (Ha : IsSl 2 Anc.e l a) (hne : l ≠ []) (hl : l.length ≤ 1000) : R E (.fn 120) [a] [] 0 = some (.ms 2 1 0 l.length, [.tomb, .cells (l.flatMap Anc.e) false]) := by
  have key : ∃ r h', R E (.fn 120) [a] [] 0 = some (r, h') ∧ (r = .ms 2 1 0 l.length ∧ h' = [.tomb, .cells (l.flatMap Anc.e) false]) := by
    refine R_of _ (es _ _ _ _) e120 ?_
    simp only [f120]
    rcases Ha with rfl | ⟨_, h⟩
    · obtain ⟨k, hk⟩ : ∃ k, l.length = k + 1 := ⟨l.length - 1, by have := List.length_pos_iff.2 hne; omega⟩
      have ap := fun h o lim => appV_new (α := Anc) (esz := 2) (eb := 16) (enc := Anc.e) (l := l) (x := .cs 2 l.length (l.flatMap Anc.e)) (.inl rfl) Anc.el Anc.sc (by omega) (by omega) h o lim
      have hz : ¬ l.length = 0 := by omega
      rw [hk] at ap hz ⊢
      simp (disch := first | assumption | omega | (simp only [az]; done)) only [ru, eq_self, if_true, if_false, BEq.rfl, binI, AO.row?, splice, fillL, mmAll, loadV, storeV, zeros, Am.rowAt, Am.part, addOff, Nat.reduceAdd, Nat.reduceMul, Nat.reduceLeDiff, Nat.reduceSub, Nat.reduceLT, Int.reduceEq, Int.reduceLT, Int.reduceLE, Int.reduceGT, Int.reduceGE, Int.reduceAdd, Int.reduceSub, Int.reduceMul, Int.reduceNeg, Int.reduceToNat, reduceCtorEq, reduceIte, pex_isNil, ap, hz, and_self]
    · exact absurd h hne
  obtain ⟨r, h', h1, rfl, rfl⟩ := key
  exact h1
theorem call120 {l : List Anc} {a : AV} (Ha : IsSl 2 Anc.e l a) (hne : l ≠ []) (hl : l.length ≤ 1000) (h : List AO) {lim : Nat} {ρ : Opd → AV} {x : Opd} (hx : ρ x = a) :
    exOp (R E) lim none ρ h (.call 2 120 [x]) = some (.ms 2 (h.length + 1) 0 l.length, h ++ [.tomb, .cells (l.flatMap Anc.e) false]) := by
  have hp : AV.pureV.go [a] = true := by simp [AV.pureV.go, pure_sl Ha]
  simp only [exOp, List.map_cons, List.map_nil, hx, hp, if_true, r120 Ha hne hl, AV.shift, AO.shift, shift_flat Anc.iv, Nat.add_comm 1]

/-- the cells of an anchor, of which the weight is written -/
theorem anc_put {l : List Anc} {i : Nat} (hi : i < l.length) (x : Int) : (l.flatMap Anc.e).take (i * 2) ++ [I x] ++ (l.flatMap Anc.e).drop (i * 2 + 1) = (l.set i ⟨x, (l.getD i default).b⟩).flatMap Anc.e ∧
    ((l.flatMap Anc.e).drop (i * 2)).head? = some (I (l.getD i default).w) ∧ i * 2 + 1 ≤ (l.flatMap Anc.e).length := by
  have h1 := flat_put Anc.el ⟨x, (l.getD i default).b⟩ l i hi
  have h2 := flat_at Anc.el l i hi
  have e : l[i] = l.getD i default := by simp [List.getD_eq_getElem?_getD, hi]
  rw [e] at h2
  have h3 : (l.flatMap Anc.e).drop (i * 2) = [I (l.getD i default).w, I (l.getD i default).b] ++ (l.flatMap Anc.e).drop (i * 2 + 2) := by
    rw [← List.take_append_drop 2 ((l.flatMap Anc.e).drop (i * 2)), h2, List.drop_drop]; rfl
  refine ⟨?_, by rw [h3]; rfl, by rw [flat_len Anc.el]; omega⟩
  rw [← h1]
  have h4 : (l.flatMap Anc.e).drop (i * 2 + 1) = I (l.getD i default).b :: (l.flatMap Anc.e).drop (i * 2 + 2) := by
    rw [← List.drop_drop, h3]; rfl
  rw [h4]
  simp [Anc.e]

/-- the best one of the first, and its wind -/
def hpGo (n : Net) : Nat → Int × Int
  | 0 => (0, -1)
  | i + 1 => if (n.ancs.getD i default).w = 20 then hpGo n i else if ((lw (heavy n i 1) (rough n) : Nat) : Int) > (hpGo n i).2 then ((i : Int), ((lw (heavy n i 1) (rough n) : Nat) : Int)) else hpGo n i
def helpV (n : Net) : Int := if (hpGo n n.ancs.length).2 < 0 then 0 else (hpGo n n.ancs.length).1
def helpE (n : Net) : Int := if (hpGo n n.ancs.length).2 < 0 then 2 else 0
def helpA (n : Net) : Int × Int := if (windA n).2 = 0 then (helpV n, helpE n) else (0, (windA n).2)
theorem windA_valid {n : Net} (h : (windA n).2 = 0) : n.valid = true := by
  unfold windA at h
  cases hv : n.valid
  · rw [hv] at h; simp at h
  · rfl

set_option maxHeartbeats 2000000 in
theorem s48 {n : Net} {g a w : AV} (H : NetOk n g a w) (st : Bool) : Iso E 48 [netV n g a w] st = some (.tup [I (helpA n).1, I (helpA n).2]) := by
  have sa := H.sa
  refine Iso_of (es _ _ _ _) e48 ?_
  simp only [f48, netV]
  have q := fun st => s44 H st
  simp only [netV] at q
  by_cases hw : (windA n).2 = 0
  case neg =>
    simp (disch := first | assumption | omega | (simp only [az]; done)) only [ru, eq_self, if_true, if_false, BEq.rfl, binI, AO.row?, splice, fillL, mmAll, loadV, storeV, zeros, Am.rowAt, Am.part, addOff, Nat.reduceAdd, Nat.reduceMul, Nat.reduceLeDiff, Nat.reduceSub, Nat.reduceLT, Int.reduceEq, Int.reduceLT, Int.reduceLE, Int.reduceGT, Int.reduceGE, Int.reduceAdd, Int.reduceSub, Int.reduceMul, Int.reduceNeg, Int.reduceToNat, reduceCtorEq, reduceIte, lenV_sl H.g, lenV_sl H.a, lenV_sl H.w, elem_sl Spn.el H.g, elem_sl Anc.el H.a, elem_sl Wal.el H.w, view_sl H.g, view_sl H.a, view_sl H.w, scalar_sl H.g, scalar_sl H.a, scalar_sl H.w, cells_sl H.g, cells_sl H.a, cells_sl H.w, pure_sl H.g, pure_sl H.a, pure_sl H.w, Spn.e, Anc.e, Wal.e, Spn.eta, Anc.eta, Wal.eta, Int.toNat_natCast, q, hw]
    simp only [helpA, hw, if_false]
  have hv := windA_valid hw
  have eA : helpA n = (helpV n, helpE n) := by simp only [helpA, hw, if_true]
  rw [eA]
  simp (disch := first | assumption | omega | (simp only [az]; done)) only [ru, eq_self, if_true, if_false, BEq.rfl, binI, AO.row?, splice, fillL, mmAll, loadV, storeV, zeros, Am.rowAt, Am.part, addOff, Nat.reduceAdd, Nat.reduceMul, Nat.reduceLeDiff, Nat.reduceSub, Nat.reduceLT, Int.reduceEq, Int.reduceLT, Int.reduceLE, Int.reduceGT, Int.reduceGE, Int.reduceAdd, Int.reduceSub, Int.reduceMul, Int.reduceNeg, Int.reduceToNat, reduceCtorEq, reduceIte, lenV_sl H.g, lenV_sl H.a, lenV_sl H.w, elem_sl Spn.el H.g, elem_sl Anc.el H.a, elem_sl Wal.el H.w, view_sl H.g, view_sl H.a, view_sl H.w, scalar_sl H.g, scalar_sl H.a, scalar_sl H.w, cells_sl H.g, cells_sl H.a, cells_sl H.w, pure_sl H.g, pure_sl H.a, pure_sl H.w, Spn.e, Anc.e, Wal.e, Spn.eta, Anc.eta, Wal.eta, Int.toNat_natCast, q, hw]
  refine G_loop_ind (fun m ts h mk => ∃ (i : Nat), i ≤ n.ancs.length ∧ m = n.ancs.length - i ∧ ts.length = 44 ∧ ts.getD 1 .undef = .ptr 0 0 ∧ ts.getD 6 .undef = I (hpGo n i).1 ∧ ts.getD 7 .undef = I (hpGo n i).2 ∧ ts.getD 8 .undef = I i ∧ h = [.cells [I n.wind.lo, I n.wind.hi, I n.cur.lo, I n.cur.hi, g, a, w] false] ∧ mk = []) ?_ _ _ _ _
    ⟨0, Nat.zero_le _, rfl, rfl, rfl, rfl, rfl, rfl, rfl, rfl⟩
  rintro m ts h mk ih ⟨i, hi, rfl, hl, q1, q6, q7, q8, rfl, rfl⟩
  rw [lit_all hl]
  simp only [lit0, litS, Nat.reduceAdd, q1, q6, q7, q8]
  simp (disch := first | assumption | omega | (simp only [az]; done)) only [ru, eq_self, if_true, if_false, BEq.rfl, binI, AO.row?, splice, fillL, mmAll, loadV, storeV, zeros, Am.rowAt, Am.part, addOff, Nat.reduceAdd, Nat.reduceMul, Nat.reduceLeDiff, Nat.reduceSub, Nat.reduceLT, Int.reduceEq, Int.reduceLT, Int.reduceLE, Int.reduceGT, Int.reduceGE, Int.reduceAdd, Int.reduceSub, Int.reduceMul, Int.reduceNeg, Int.reduceToNat, reduceCtorEq, reduceIte, lenV_sl H.g, lenV_sl H.a, lenV_sl H.w, elem_sl Spn.el H.g, elem_sl Anc.el H.a, elem_sl Wal.el H.w, view_sl H.g, view_sl H.a, view_sl H.w, scalar_sl H.g, scalar_sl H.a, scalar_sl H.w, cells_sl H.g, cells_sl H.a, cells_sl H.w, pure_sl H.g, pure_sl H.a, pure_sl H.w, Spn.e, Anc.e, Wal.e, Spn.eta, Anc.eta, Wal.eta, Int.toNat_natCast]
  by_cases hlt : (i : Int) < n.ancs.length
  case pos =>
    have hi' : i < n.ancs.length := by omega
    obtain ⟨w0, w1, b0, b1, _⟩ := good_anc (rough_good hv).toFair hi'
    by_cases h20 : (n.ancs.getD i default).w = 20
    · have e : hpGo n (i + 1) = hpGo n i := by rw [hpGo, if_pos h20]
      simp (disch := first | assumption | omega | (simp only [az]; done)) only [ru, eq_self, if_true, if_false, BEq.rfl, binI, AO.row?, splice, fillL, mmAll, loadV, storeV, zeros, Am.rowAt, Am.part, addOff, Nat.reduceAdd, Nat.reduceMul, Nat.reduceLeDiff, Nat.reduceSub, Nat.reduceLT, Int.reduceEq, Int.reduceLT, Int.reduceLE, Int.reduceGT, Int.reduceGE, Int.reduceAdd, Int.reduceSub, Int.reduceMul, Int.reduceNeg, Int.reduceToNat, reduceCtorEq, reduceIte, lenV_sl H.g, lenV_sl H.a, lenV_sl H.w, elem_sl Spn.el H.g, elem_sl Anc.el H.a, elem_sl Wal.el H.w, view_sl H.g, view_sl H.a, view_sl H.w, scalar_sl H.g, scalar_sl H.a, scalar_sl H.w, cells_sl H.g, cells_sl H.a, cells_sl H.w, pure_sl H.g, pure_sl H.a, pure_sl H.w, Spn.e, Anc.e, Wal.e, Spn.eta, Anc.eta, Wal.eta, Int.toNat_natCast, hlt, h20]
      exact ih (n.ancs.length - (i + 1)) _ _ _ (by omega) ⟨i + 1, by omega, rfl, rfl, rfl, by rw [e]; rfl, by rw [e]; rfl, rfl, rfl, rfl⟩
    have hv' : (heavy n i 1).valid = true := heavy_valid hv hi' (by omega) (by omega)
    have d1 := fun st => s59 H hi' (x := 1) (by omega) (by omega) st
    have d2 : ∀ st, Iso E 97 [netC (heavy n i 1)] st = some (I (lw (heavy n i 1) (rough n))) := fun st => s97 (n := heavy n i 1) ⟨slV_is, slV_is, slV_is, H.sg, by rw [heavy_len]; exact H.sa, H.sw⟩ hv' st
    have e : hpGo n (i + 1) = if ((lw (heavy n i 1) (rough n) : Nat) : Int) > (hpGo n i).2 then ((i : Int), ((lw (heavy n i 1) (rough n) : Nat) : Int)) else hpGo n i := by rw [hpGo, if_neg h20]
    obtain ⟨x, hx⟩ : ∃ x, x = lw (heavy n i 1) (rough n) := ⟨_, rfl⟩
    rw [← hx] at e
    simp only [← hx] at d2
    obtain ⟨n', hn'⟩ : ∃ n', n' = heavy n i 1 := ⟨_, rfl⟩
    simp only [← hn', netC, netV] at d1 d2
    by_cases hgt : (x : Int) > (hpGo n i).2
    · rw [if_pos hgt] at e
      simp (disch := first | assumption | omega | (simp only [az]; done)) only [ru, eq_self, if_true, if_false, BEq.rfl, binI, AO.row?, splice, fillL, mmAll, loadV, storeV, zeros, Am.rowAt, Am.part, addOff, Nat.reduceAdd, Nat.reduceMul, Nat.reduceLeDiff, Nat.reduceSub, Nat.reduceLT, Int.reduceEq, Int.reduceLT, Int.reduceLE, Int.reduceGT, Int.reduceGE, Int.reduceAdd, Int.reduceSub, Int.reduceMul, Int.reduceNeg, Int.reduceToNat, reduceCtorEq, reduceIte, lenV_sl H.g, lenV_sl H.a, lenV_sl H.w, elem_sl Spn.el H.g, elem_sl Anc.el H.a, elem_sl Wal.el H.w, view_sl H.g, view_sl H.a, view_sl H.w, scalar_sl H.g, scalar_sl H.a, scalar_sl H.w, cells_sl H.g, cells_sl H.a, cells_sl H.w, pure_sl H.g, pure_sl H.a, pure_sl H.w, Spn.e, Anc.e, Wal.e, Spn.eta, Anc.eta, Wal.eta, Int.toNat_natCast, hlt, h20, d1, d2, slV_sc, slV_ce, slV_vi, slV_pu, hgt]
      exact ih (n.ancs.length - (i + 1)) _ _ _ (by omega) ⟨i + 1, by omega, rfl, rfl, rfl, by rw [e]; rfl, by rw [e]; rfl, rfl, rfl, rfl⟩
    · rw [if_neg hgt] at e
      simp (disch := first | assumption | omega | (simp only [az]; done)) only [ru, eq_self, if_true, if_false, BEq.rfl, binI, AO.row?, splice, fillL, mmAll, loadV, storeV, zeros, Am.rowAt, Am.part, addOff, Nat.reduceAdd, Nat.reduceMul, Nat.reduceLeDiff, Nat.reduceSub, Nat.reduceLT, Int.reduceEq, Int.reduceLT, Int.reduceLE, Int.reduceGT, Int.reduceGE, Int.reduceAdd, Int.reduceSub, Int.reduceMul, Int.reduceNeg, Int.reduceToNat, reduceCtorEq, reduceIte, lenV_sl H.g, lenV_sl H.a, lenV_sl H.w, elem_sl Spn.el H.g, elem_sl Anc.el H.a, elem_sl Wal.el H.w, view_sl H.g, view_sl H.a, view_sl H.w, scalar_sl H.g, scalar_sl H.a, scalar_sl H.w, cells_sl H.g, cells_sl H.a, cells_sl H.w, pure_sl H.g, pure_sl H.a, pure_sl H.w, Spn.e, Anc.e, Wal.e, Spn.eta, Anc.eta, Wal.eta, Int.toNat_natCast, hlt, h20, d1, d2, slV_sc, slV_ce, slV_vi, slV_pu, hgt]
      exact ih (n.ancs.length - (i + 1)) _ _ _ (by omega) ⟨i + 1, by omega, rfl, rfl, rfl, by rw [e]; rfl, by rw [e]; rfl, rfl, rfl, rfl⟩
  obtain rfl : i = n.ancs.length := by omega
  simp only [helpV, helpE]
  by_cases hm : (hpGo n n.ancs.length).2 < 0
  · simp (disch := first | assumption | omega | (simp only [az]; done)) only [ru, eq_self, if_true, if_false, BEq.rfl, binI, AO.row?, splice, fillL, mmAll, loadV, storeV, zeros, Am.rowAt, Am.part, addOff, Nat.reduceAdd, Nat.reduceMul, Nat.reduceLeDiff, Nat.reduceSub, Nat.reduceLT, Int.reduceEq, Int.reduceLT, Int.reduceLE, Int.reduceGT, Int.reduceGE, Int.reduceAdd, Int.reduceSub, Int.reduceMul, Int.reduceNeg, Int.reduceToNat, reduceCtorEq, reduceIte, hlt, hm]
  · simp (disch := first | assumption | omega | (simp only [az]; done)) only [ru, eq_self, if_true, if_false, BEq.rfl, binI, AO.row?, splice, fillL, mmAll, loadV, storeV, zeros, Am.rowAt, Am.part, addOff, Nat.reduceAdd, Nat.reduceMul, Nat.reduceLeDiff, Nat.reduceSub, Nat.reduceLT, Int.reduceEq, Int.reduceLT, Int.reduceLE, Int.reduceGT, Int.reduceGE, Int.reduceAdd, Int.reduceSub, Int.reduceMul, Int.reduceNeg, Int.reduceToNat, reduceCtorEq, reduceIte, hlt, hm]

set_option maxHeartbeats 2000000 in
theorem s99 {n : Net} {g a w : AV} (H : NetOk n g a w) (hv : n.valid = true) (st : Bool) : Iso E 99 [netV n g a w] st = some (.tup [I (helpV n), I (helpE n)]) := by
  have sa := H.sa
  have la := (netB hv).la
  have lg := (netB hv).lg
  have gs := scalar_sl H.g; have ws := scalar_sl H.w
  refine Iso_of (es _ _ _ _) e99 ?_
  simp only [f99, netV]
  simp (disch := first | assumption | omega | (simp only [az]; done)) only [ru, eq_self, if_true, if_false, BEq.rfl, binI, AO.row?, splice, fillL, mmAll, loadV, storeV, zeros, Am.rowAt, Am.part, addOff, Nat.reduceAdd, Nat.reduceMul, Nat.reduceLeDiff, Nat.reduceSub, Nat.reduceLT, Int.reduceEq, Int.reduceLT, Int.reduceLE, Int.reduceGT, Int.reduceGE, Int.reduceAdd, Int.reduceSub, Int.reduceMul, Int.reduceNeg, Int.reduceToNat, reduceCtorEq, reduceIte, lenV_sl H.g, lenV_sl H.a, lenV_sl H.w, elem_sl Spn.el H.g, elem_sl Anc.el H.a, elem_sl Wal.el H.w, view_sl H.g, view_sl H.a, view_sl H.w, scalar_sl H.g, scalar_sl H.a, scalar_sl H.w, cells_sl H.g, cells_sl H.a, cells_sl H.w, pure_sl H.g, pure_sl H.a, pure_sl H.w, Spn.e, Anc.e, Wal.e, Spn.eta, Anc.eta, Wal.eta, Int.toNat_natCast]
  refine G_loop_ind (fun m ts h mk => ∃ (i : Nat), i ≤ n.ancs.length ∧ m = n.ancs.length - i ∧ ts.length = 47 ∧ ts.getD 1 .undef = .ptr 0 0 ∧ ts.getD 4 .undef = I (hpGo n i).1 ∧ ts.getD 5 .undef = I (hpGo n i).2 ∧ ts.getD 11 .undef = a ∧ ts.getD 12 .undef = I n.ancs.length ∧ ts.getD 13 .undef = I i ∧ h[0]? = some (.cells [I n.wind.lo, I n.wind.hi, I n.cur.lo, I n.cur.hi, g, a, w] false) ∧ mk = []) ?_ _ _ _ _
    ⟨0, Nat.zero_le _, rfl, rfl, rfl, rfl, rfl, rfl, rfl, rfl, rfl, rfl⟩
  rintro m ts h mk ih ⟨i, hi, rfl, hl, q1, q4, q5, q11, q12, q13, h0, rfl⟩
  rw [lit_all hl]
  simp only [lit0, litS, Nat.reduceAdd, q1, q4, q5, q11, q12, q13]
  simp (disch := first | assumption | omega | (simp only [az]; done)) only [ru, eq_self, if_true, if_false, BEq.rfl, binI, AO.row?, splice, fillL, mmAll, loadV, storeV, zeros, Am.rowAt, Am.part, addOff, Nat.reduceAdd, Nat.reduceMul, Nat.reduceLeDiff, Nat.reduceSub, Nat.reduceLT, Int.reduceEq, Int.reduceLT, Int.reduceLE, Int.reduceGT, Int.reduceGE, Int.reduceAdd, Int.reduceSub, Int.reduceMul, Int.reduceNeg, Int.reduceToNat, reduceCtorEq, reduceIte]
  by_cases hlt : (i : Int) < n.ancs.length
  case pos =>
    have hi' : i < n.ancs.length := by omega
    have hne : n.ancs ≠ [] := fun e => by rw [e] at hi'; simp at hi'
    have hpos := (List.getElem?_eq_some_iff.1 h0).1
    have h0' : ∀ J, (h ++ J)[0]? = some (.cells [I n.wind.lo, I n.wind.hi, I n.cur.lo, I n.cur.hi, g, a, w] false) := fun J => by rw [List.getElem?_append_left hpos]; exact h0
    obtain ⟨w0, w1, b0, b1, _⟩ := good_anc (rough_good hv).toFair hi'
    obtain ⟨v, hvv⟩ : ∃ v, v = n.ancs.getD i default := ⟨_, rfl⟩
    by_cases h20 : (n.ancs.getD i default).w = 20
    · have e : hpGo n (i + 1) = hpGo n i := by rw [hpGo, if_pos h20]
      rw [← hvv] at h20
      simp (disch := first | assumption | omega | (simp only [az]; done)) only [ru, eq_self, if_true, if_false, BEq.rfl, binI, AO.row?, splice, fillL, mmAll, loadV, storeV, zeros, Am.rowAt, Am.part, addOff, Nat.reduceAdd, Nat.reduceMul, Nat.reduceLeDiff, Nat.reduceSub, Nat.reduceLT, Int.reduceEq, Int.reduceLT, Int.reduceLE, Int.reduceGT, Int.reduceGE, Int.reduceAdd, Int.reduceSub, Int.reduceMul, Int.reduceNeg, Int.reduceToNat, reduceCtorEq, reduceIte, lenV_sl H.g, lenV_sl H.a, lenV_sl H.w, elem_sl Spn.el H.g, elem_sl Anc.el H.a, elem_sl Wal.el H.w, view_sl H.g, view_sl H.a, view_sl H.w, scalar_sl H.g, scalar_sl H.a, scalar_sl H.w, cells_sl H.g, cells_sl H.a, cells_sl H.w, pure_sl H.g, pure_sl H.a, pure_sl H.w, Spn.e, Anc.e, Wal.e, Spn.eta, Anc.eta, Wal.eta, Int.toNat_natCast, hlt, ← hvv, h20, List.append_assoc, lenE, setT, setT0, atT, atT0, getT, getT0, Nat.add_assoc]
      exact ih (n.ancs.length - (i + 1)) _ _ _ (by omega) ⟨i + 1, by omega, rfl, rfl, rfl, by rw [e]; rfl, by rw [e]; rfl, rfl, rfl, rfl, h0' _, rfl⟩
    have hv' : (heavy n i 1).valid = true := heavy_valid hv hi' (by omega) (by omega)
    have e : hpGo n (i + 1) = if ((lw (heavy n i 1) (rough n) : Nat) : Int) > (hpGo n i).2 then ((i : Int), ((lw (heavy n i 1) (rough n) : Nat) : Int)) else hpGo n i := by rw [hpGo, if_neg h20]
    obtain ⟨x, hx⟩ : ∃ x, x = lw (heavy n i 1) (rough n) := ⟨_, rfl⟩
    rw [← hx] at e
    obtain ⟨p1, p2, p3⟩ := anc_put hi' ((n.ancs.getD i default).w + 1)
    rw [← hvv] at h20 w0 w1 p1 p2
    obtain ⟨A', hA'⟩ : ∃ A', A' = n.ancs.set i ⟨v.w + 1, v.b⟩ := ⟨_, rfl⟩
    rw [← hA'] at p1
    have lA : A'.length = n.ancs.length := by rw [hA', List.length_set]
    have c120 := fun (hh : List AO) {lim : Nat} {ρ : Opd → AV} {y : Opd} (hy : ρ y = a) => call120 H.a hne (by omega) hh (lim := lim) hy
    -- the heap before the truth is laid
    obtain ⟨gr, J, c90, rd⟩ := r90 (n := n) (a := .ms 2 (h.length + 3) 0 n.ancs.length) H.g H.w rfl lg (lim := 0) (h := h ++ [.cells [I v.w, I v.b] false, .cells [I n.wind.lo, I n.wind.hi, I n.cur.lo, I n.cur.hi, g, .ms 2 (h.length + 3) 0 n.ancs.length, w] false, .tomb, .cells (A'.flatMap Anc.e) false]) (Nat.zero_le _)
    rw [List.append_assoc] at c90 rd
    simp only [apC, apN] at c90 rd
    have vg := rd.view (st := false) (k := 6)
    have iA : IsSl 2 Anc.e A' (.cs 2 n.ancs.length (A'.flatMap Anc.e)) := .inl (by rw [lA])
    have Hh : NetOk (heavy n i 1) g (.cs 2 n.ancs.length (A'.flatMap Anc.e)) w := ⟨H.g, by show IsSl 2 Anc.e (n.ancs.set i ⟨(n.ancs.getD i default).w + 1, (n.ancs.getD i default).b⟩) _; rw [← hvv, ← hA']; exact iA, H.w, H.sg, by rw [heavy_len]; exact H.sa, H.sw⟩
    have c96 : ∀ st, Iso E 96 [netT n g (.cs 2 n.ancs.length (A'.flatMap Anc.e)) w (rough n) (resL (rough n).grips)] st = some (I x) := fun st => by
      rw [hx]
      exact s96 Hh (rough_ok H) (rough_good hv').toFair st
    have tA := flat_take (l := A') Anc.el
    have eA := flat_len Anc.el A'
    rw [lA] at tA eA
    simp only [netT] at c90 c96
    simp (disch := first | assumption | omega | (simp only [az]; done)) only [ru, eq_self, if_true, if_false, BEq.rfl, binI, AO.row?, splice, fillL, mmAll, loadV, storeV, zeros, Am.rowAt, Am.part, addOff, Nat.reduceAdd, Nat.reduceMul, Nat.reduceLeDiff, Nat.reduceSub, Nat.reduceLT, Int.reduceEq, Int.reduceLT, Int.reduceLE, Int.reduceGT, Int.reduceGE, Int.reduceAdd, Int.reduceSub, Int.reduceMul, Int.reduceNeg, Int.reduceToNat, reduceCtorEq, reduceIte, lenV_sl H.g, lenV_sl H.a, lenV_sl H.w, elem_sl Spn.el H.g, elem_sl Anc.el H.a, elem_sl Wal.el H.w, view_sl H.g, view_sl H.a, view_sl H.w, scalar_sl H.g, scalar_sl H.a, scalar_sl H.w, cells_sl H.g, cells_sl H.a, cells_sl H.w, pure_sl H.g, pure_sl H.a, pure_sl H.w, Spn.e, Anc.e, Wal.e, Spn.eta, Anc.eta, Wal.eta, Int.toNat_natCast, hlt, ← hvv, h20, List.append_assoc, lenE, setT, setT0, atT, atT0, getT, getT0, Nat.add_assoc, h0']
    rw [c120 _ rfl]
    by_cases hgt : (x : Int) > (hpGo n i).2
    · rw [if_pos hgt] at e
      simp (disch := first | assumption | omega | (simp only [az]; done)) only [ru, eq_self, if_true, if_false, BEq.rfl, binI, AO.row?, splice, fillL, mmAll, loadV, storeV, zeros, Am.rowAt, Am.part, addOff, Nat.reduceAdd, Nat.reduceMul, Nat.reduceLeDiff, Nat.reduceSub, Nat.reduceLT, Int.reduceEq, Int.reduceLT, Int.reduceLE, Int.reduceGT, Int.reduceGE, Int.reduceAdd, Int.reduceSub, Int.reduceMul, Int.reduceNeg, Int.reduceToNat, reduceCtorEq, reduceIte, lenV_sl H.g, lenV_sl H.a, lenV_sl H.w, elem_sl Spn.el H.g, elem_sl Anc.el H.a, elem_sl Wal.el H.w, view_sl H.g, view_sl H.a, view_sl H.w, scalar_sl H.g, scalar_sl H.a, scalar_sl H.w, cells_sl H.g, cells_sl H.a, cells_sl H.w, pure_sl H.g, pure_sl H.a, pure_sl H.w, Spn.e, Anc.e, Wal.e, Spn.eta, Anc.eta, Wal.eta, Int.toNat_natCast, hlt, List.append_assoc, lenE, setT, setT0, atT, atT0, getT, getT0, Nat.add_assoc, h0', p1, p2, p3, c90, vg, tA, eA, flat_view Anc.iv, c96, rd.len.2.1, rd.len.2.2, hgt]
      exact ih (n.ancs.length - (i + 1)) _ _ _ (by omega) ⟨i + 1, by omega, rfl, rfl, rfl, by rw [e]; rfl, by rw [e]; rfl, rfl, rfl, rfl, h0' _, rfl⟩
    · rw [if_neg hgt] at e
      simp (disch := first | assumption | omega | (simp only [az]; done)) only [ru, eq_self, if_true, if_false, BEq.rfl, binI, AO.row?, splice, fillL, mmAll, loadV, storeV, zeros, Am.rowAt, Am.part, addOff, Nat.reduceAdd, Nat.reduceMul, Nat.reduceLeDiff, Nat.reduceSub, Nat.reduceLT, Int.reduceEq, Int.reduceLT, Int.reduceLE, Int.reduceGT, Int.reduceGE, Int.reduceAdd, Int.reduceSub, Int.reduceMul, Int.reduceNeg, Int.reduceToNat, reduceCtorEq, reduceIte, lenV_sl H.g, lenV_sl H.a, lenV_sl H.w, elem_sl Spn.el H.g, elem_sl Anc.el H.a, elem_sl Wal.el H.w, view_sl H.g, view_sl H.a, view_sl H.w, scalar_sl H.g, scalar_sl H.a, scalar_sl H.w, cells_sl H.g, cells_sl H.a, cells_sl H.w, pure_sl H.g, pure_sl H.a, pure_sl H.w, Spn.e, Anc.e, Wal.e, Spn.eta, Anc.eta, Wal.eta, Int.toNat_natCast, hlt, List.append_assoc, lenE, setT, setT0, atT, atT0, getT, getT0, Nat.add_assoc, h0', p1, p2, p3, c90, vg, tA, eA, flat_view Anc.iv, c96, rd.len.2.1, rd.len.2.2, hgt]
      exact ih (n.ancs.length - (i + 1)) _ _ _ (by omega) ⟨i + 1, by omega, rfl, rfl, rfl, by rw [e]; rfl, by rw [e]; rfl, rfl, rfl, rfl, h0' _, rfl⟩
  obtain rfl : i = n.ancs.length := by omega
  simp only [helpV, helpE]
  by_cases hm : (hpGo n n.ancs.length).2 < 0
  · simp (disch := first | assumption | omega | (simp only [az]; done)) only [ru, eq_self, if_true, if_false, BEq.rfl, binI, AO.row?, splice, fillL, mmAll, loadV, storeV, zeros, Am.rowAt, Am.part, addOff, Nat.reduceAdd, Nat.reduceMul, Nat.reduceLeDiff, Nat.reduceSub, Nat.reduceLT, Int.reduceEq, Int.reduceLT, Int.reduceLE, Int.reduceGT, Int.reduceGE, Int.reduceAdd, Int.reduceSub, Int.reduceMul, Int.reduceNeg, Int.reduceToNat, reduceCtorEq, reduceIte, hlt, hm]
  · simp (disch := first | assumption | omega | (simp only [az]; done)) only [ru, eq_self, if_true, if_false, BEq.rfl, binI, AO.row?, splice, fillL, mmAll, loadV, storeV, zeros, Am.rowAt, Am.part, addOff, Nat.reduceAdd, Nat.reduceMul, Nat.reduceLeDiff, Nat.reduceSub, Nat.reduceLT, Int.reduceEq, Int.reduceLT, Int.reduceLE, Int.reduceGT, Int.reduceGE, Int.reduceAdd, Int.reduceSub, Int.reduceMul, Int.reduceNeg, Int.reduceToNat, reduceCtorEq, reduceIte, hlt, hm]

theorem s47 {n : Net} {g a w : AV} (H : NetOk n g a w) (st : Bool) : Iso E 47 [netV n g a w] st = some (.tup [I (helpA n).1, I (helpA n).2]) := by
  refine Iso_of (es _ _ _ _) e47 ?_
  simp only [f47, netV]
  have q := fun st => s43a H st
  simp only [netV] at q
  by_cases hw : (windA n).2 = 0
  case neg =>
    simp (disch := first | assumption | omega | (simp only [az]; done)) only [ru, eq_self, if_true, if_false, BEq.rfl, binI, AO.row?, splice, fillL, mmAll, loadV, storeV, zeros, Am.rowAt, Am.part, addOff, Nat.reduceAdd, Nat.reduceMul, Nat.reduceLeDiff, Nat.reduceSub, Nat.reduceLT, Int.reduceEq, Int.reduceLT, Int.reduceLE, Int.reduceGT, Int.reduceGE, Int.reduceAdd, Int.reduceSub, Int.reduceMul, Int.reduceNeg, Int.reduceToNat, reduceCtorEq, reduceIte, lenV_sl H.g, lenV_sl H.a, lenV_sl H.w, elem_sl Spn.el H.g, elem_sl Anc.el H.a, elem_sl Wal.el H.w, view_sl H.g, view_sl H.a, view_sl H.w, scalar_sl H.g, scalar_sl H.a, scalar_sl H.w, cells_sl H.g, cells_sl H.a, cells_sl H.w, pure_sl H.g, pure_sl H.a, pure_sl H.w, Spn.e, Anc.e, Wal.e, Spn.eta, Anc.eta, Wal.eta, Int.toNat_natCast, q, hw]
    simp only [helpA, hw, if_false]
  have c := fun st => s99 H (windA_valid hw) st
  have eA : helpA n = (helpV n, helpE n) := by simp only [helpA, hw, if_true]
  rw [eA]
  simp only [netV] at c
  simp (disch := first | assumption | omega | (simp only [az]; done)) only [ru, eq_self, if_true, if_false, BEq.rfl, binI, AO.row?, splice, fillL, mmAll, loadV, storeV, zeros, Am.rowAt, Am.part, addOff, Nat.reduceAdd, Nat.reduceMul, Nat.reduceLeDiff, Nat.reduceSub, Nat.reduceLT, Int.reduceEq, Int.reduceLT, Int.reduceLE, Int.reduceGT, Int.reduceGE, Int.reduceAdd, Int.reduceSub, Int.reduceMul, Int.reduceNeg, Int.reduceToNat, reduceCtorEq, reduceIte, lenV_sl H.g, lenV_sl H.a, lenV_sl H.w, elem_sl Spn.el H.g, elem_sl Anc.el H.a, elem_sl Wal.el H.w, view_sl H.g, view_sl H.a, view_sl H.w, scalar_sl H.g, scalar_sl H.a, scalar_sl H.w, cells_sl H.g, cells_sl H.a, cells_sl H.w, pure_sl H.g, pure_sl H.a, pure_sl H.w, Spn.e, Anc.e, Wal.e, Spn.eta, Anc.eta, Wal.eta, Int.toNat_natCast, q, hw, c]
theorem needL_len {n : Net} (h : n.ancs.length ≤ 40) : (needL n).length ≤ 1000000 := by
  unfold needL; split
  · rw [ndl_len]; omega
  · simp
theorem s7 {n : Net} {g a w : AV} (H0 : NetIn n g a w) (st : Bool) : Iso E 7 [netV n g a w] st = some (Bo true) := by
  refine Iso_of (es _ _ _ _) e7 ?_
  simp only [f7, netV]
  by_cases hs : smallN n
  case neg =>
    simp (disch := first | assumption | omega | (simp only [az]; done)) only [ru, eq_self, if_true, if_false, BEq.rfl, binI, AO.row?, splice, fillL, mmAll, loadV, storeV, zeros, Am.rowAt, Am.part, addOff, Nat.reduceAdd, Nat.reduceMul, Nat.reduceLeDiff, Nat.reduceSub, Nat.reduceLT, Int.reduceEq, Int.reduceLT, Int.reduceLE, Int.reduceGT, Int.reduceGE, Int.reduceAdd, Int.reduceSub, Int.reduceMul, Int.reduceNeg, Int.reduceToNat, reduceCtorEq, reduceIte, s36h H0 hs, view_sl H0.g, view_sl H0.a, view_sl H0.w, s16]
  have H : NetOk n g a w := ⟨H0.g, H0.a, H0.w, hs.1, hs.2.1, hs.2.2⟩
  cases hm : (n.valid && manyB n)
  case true =>
    simp (disch := first | assumption | omega | (simp only [az]; done)) only [ru, eq_self, if_true, if_false, BEq.rfl, binI, AO.row?, splice, fillL, mmAll, loadV, storeV, zeros, Am.rowAt, Am.part, addOff, Nat.reduceAdd, Nat.reduceMul, Nat.reduceLeDiff, Nat.reduceSub, Nat.reduceLT, Int.reduceEq, Int.reduceLT, Int.reduceLE, Int.reduceGT, Int.reduceGE, Int.reduceAdd, Int.reduceSub, Int.reduceMul, Int.reduceNeg, Int.reduceToNat, reduceCtorEq, reduceIte, lenV_sl H.g, lenV_sl H.a, lenV_sl H.w, elem_sl Spn.el H.g, elem_sl Anc.el H.a, elem_sl Wal.el H.w, view_sl H.g, view_sl H.a, view_sl H.w, scalar_sl H.g, scalar_sl H.a, scalar_sl H.w, cells_sl H.g, cells_sl H.a, cells_sl H.w, pure_sl H.g, pure_sl H.a, pure_sl H.w, Spn.e, Anc.e, Wal.e, Spn.eta, Anc.eta, Wal.eta, Int.toNat_natCast, s36 H, hm, s16]
  have C := H.c
  have c1 := fun st => s47 C st
  have c2 := fun st => s48 H st
  have c3 := fun st => s49a C st
  have c4 := fun st => s50 H st
  have nl := needL_len hs.2.1
  obtain ⟨p, hp⟩ : ∃ p, p = helpA n := ⟨_, rfl⟩
  obtain ⟨q, hq⟩ : ∃ q, q = needE n := ⟨_, rfl⟩
  obtain ⟨L, hL⟩ : ∃ L, L = needL n := ⟨_, rfl⟩
  rw [← hL] at nl
  simp only [← hp] at c1 c2
  simp only [← hq, ← hL] at c3 c4
  simp only [netV] at c1 c2 c3 c4
  have c5 := fun st => s30 (resL_is L) (resL_is L) nl st
  simp (disch := first | assumption | omega | (simp only [az]; done)) only [ru, eq_self, if_true, if_false, BEq.rfl, binI, AO.row?, splice, fillL, mmAll, loadV, storeV, zeros, Am.rowAt, Am.part, addOff, Nat.reduceAdd, Nat.reduceMul, Nat.reduceLeDiff, Nat.reduceSub, Nat.reduceLT, Int.reduceEq, Int.reduceLT, Int.reduceLE, Int.reduceGT, Int.reduceGE, Int.reduceAdd, Int.reduceSub, Int.reduceMul, Int.reduceNeg, Int.reduceToNat, reduceCtorEq, reduceIte, lenV_sl H.g, lenV_sl H.a, lenV_sl H.w, elem_sl Spn.el H.g, elem_sl Anc.el H.a, elem_sl Wal.el H.w, view_sl H.g, view_sl H.a, view_sl H.w, scalar_sl H.g, scalar_sl H.a, scalar_sl H.w, cells_sl H.g, cells_sl H.a, cells_sl H.w, pure_sl H.g, pure_sl H.a, pure_sl H.w, Spn.e, Anc.e, Wal.e, Spn.eta, Anc.eta, Wal.eta, Int.toNat_natCast, s36 H, hm, s17 H, slV_sc, slV_ce, slV_vi, slV_pu, resL_sc, resL_ce, resL_pu, resL_vi, c1, c2, c3, c4, c5, s24 C H, s16]
end Go.Proofs.Ytpflneddfhifkaa.S
