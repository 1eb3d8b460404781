/-
A net backwards.
-/
import Derived.Test.YtpflneddfhifkaaHn
namespace Go.Proofs.Ytpflneddfhifkaa.S
open Go Go.Am Go.Proofs.Ytpflneddfhifkaa.T
set_option maxRecDepth 100000
set_option linter.unusedSimpArgs false
set_option linter.unusedVariables false

/-- the first ones are those of the list backwards -/
def mixR {α : Type} (l : List α) (i : Nat) : List α := l.reverse.take i ++ l.drop i
theorem mixR_len {α : Type} {l : List α} {i : Nat} (h : i ≤ l.length) : (mixR l i).length = l.length := by
  simp only [mixR, List.length_append, List.length_take, List.length_reverse, List.length_drop]; omega
theorem mixR_set {α : Type} [Inhabited α] {l : List α} {i : Nat} (h : i < l.length) : (mixR l i).set i (l.getD (l.length - 1 - i) default) = mixR l (i + 1) := by
  unfold mixR
  have hl : (l.reverse.take i).length = i := by simp; omega
  have hr : i < l.reverse.length := by simpa using h
  rw [List.set_append_right _ _ (by omega), hl, Nat.sub_self, List.drop_eq_getElem_cons h, List.set_cons_zero, List.take_succ_eq_append_getElem hr, List.getElem_reverse,
    List.append_assoc]
  congr 1
  simp only [List.singleton_append, List.getD_eq_getElem?_getD]
  rw [List.getElem?_eq_getElem (by omega)]
  rfl
theorem mixR_all {α : Type} {l : List α} : mixR l l.length = l.reverse := by
  unfold mixR
  rw [List.drop_length, List.append_nil, List.take_of_length_le (by simp)]

def turned (n : Net) : Net := { n with ancs := n.ancs.reverse, walls := n.walls.reverse }

structure TH (n : Net) (g a w : AV) (og oa ow p : Nat) (A : List Anc) (W : List Wal) (h : List AO) : Prop where
  f0 : h[0]? = some (.cells [I n.wind.lo, I n.wind.hi, I n.cur.lo, I n.cur.hi, g, a, w] false)
  f1 : h[1]? = some (.cells [I 0, I 0, I 0, I 0, .nils, .nils, .nils] false)
  fp : h[p]? = some (.cells [I n.wind.lo, I n.wind.hi, I n.cur.lo, I n.cur.hi, .ms 2 og 0 n.grips.length, .ms 2 oa 0 n.ancs.length, .ms 5 ow 0 n.walls.length] false)
  g : h[og]? = some (.cells (n.grips.flatMap Spn.e) false)
  a : h[oa]? = some (.cells (A.flatMap Anc.e) false)
  w : h[ow]? = some (.cells (W.flatMap Wal.e) false)
  d1 : oa ≠ 0 ∧ oa ≠ 1 ∧ oa ≠ p ∧ oa ≠ og ∧ oa ≠ ow
  d2 : ow ≠ 0 ∧ ow ≠ 1 ∧ ow ≠ p ∧ ow ≠ og ∧ ow ≠ oa
  d3 : og ≠ 1
theorem TH.putA {n : Net} {g a w : AV} {og oa ow p : Nat} {A B : List Anc} {W : List Wal} {h : List AO} (T : TH n g a w og oa ow p A W h) : TH n g a w og oa ow p B W (h.set oa (.cells (B.flatMap Anc.e) false)) := by
  obtain ⟨f0, f1, fp, fg, fa, fw, ⟨d1, d2, d3, d4, d5⟩, ⟨c1, c2, c3, c4, c5⟩, d6⟩ := T
  exact ⟨by rw [at_ne d1]; exact f0, by rw [at_ne d2]; exact f1, by rw [at_ne d3]; exact fp, by rw [at_ne d4]; exact fg, at_set (at_len fa), by rw [at_ne d5]; exact fw, ⟨d1, d2, d3, d4, d5⟩, ⟨c1, c2, c3, c4, c5⟩, d6⟩
theorem TH.putW {n : Net} {g a w : AV} {og oa ow p : Nat} {A : List Anc} {W B : List Wal} {h : List AO} (T : TH n g a w og oa ow p A W h) : TH n g a w og oa ow p A B (h.set ow (.cells (B.flatMap Wal.e) false)) := by
  obtain ⟨f0, f1, fp, fg, fa, fw, ⟨d1, d2, d3, d4, d5⟩, ⟨c1, c2, c3, c4, c5⟩, d6⟩ := T
  exact ⟨by rw [at_ne c1]; exact f0, by rw [at_ne c2]; exact f1, by rw [at_ne c3]; exact fp, by rw [at_ne c4]; exact fg, by rw [at_ne c5]; exact fa, at_set (at_len fw), ⟨d1, d2, d3, d4, d5⟩, ⟨c1, c2, c3, c4, c5⟩, d6⟩

set_option maxHeartbeats 1000000 in
theorem s60 {n : Net} {g a w : AV} (H : NetOk n g a w) (st : Bool) : Iso E 60 [netV n g a w] st = some (netC (turned n)) := by
  have sg := H.sg; have sa := H.sa; have sw := H.sw
  refine Iso_of (es _ _ _ _) e60 ?_
  simp only [f60, netV]
  obtain ⟨og, oa, ow, K, q, C, lg, la, lw⟩ := call17 H [.cells [I n.wind.lo, I n.wind.hi, I n.cur.lo, I n.cur.hi, g, a, w] false, .cells [I 0, I 0, I 0, I 0, .nils, .nils, .nils] false]
  simp (disch := first | assumption | omega | (simp only [az]; done)) only [ru, eq_self, if_true, if_false, BEq.rfl, binI, AO.row?, splice, fillL, mmAll, loadV, storeV, zeros, Am.rowAt, Am.part, addOff, Nat.reduceAdd, Nat.reduceMul, Nat.reduceLeDiff, Nat.reduceSub, Nat.reduceLT, Int.reduceEq, Int.reduceLT, Int.reduceLE, Int.reduceGT, Int.reduceGE, Int.reduceAdd, Int.reduceSub, Int.reduceMul, Int.reduceNeg, Int.reduceToNat, reduceCtorEq, reduceIte, lenV_sl H.g, lenV_sl H.a, lenV_sl H.w, elem_sl Spn.el H.g, elem_sl Anc.el H.a, elem_sl Wal.el H.w, view_sl H.g, view_sl H.a, view_sl H.w, scalar_sl H.g, scalar_sl H.a, scalar_sl H.w, cells_sl H.g, cells_sl H.a, cells_sl H.w, pure_sl H.g, pure_sl H.a, pure_sl H.w, Spn.e, Anc.e, Wal.e, Spn.eta, Anc.eta, Wal.eta, Int.toNat_natCast]
  rw [q rfl]
  obtain ⟨Hp, hHp⟩ : ∃ Hp, Hp = [.cells [I n.wind.lo, I n.wind.hi, I n.cur.lo, I n.cur.hi, g, a, w] false, .cells [I 0, I 0, I 0, I 0, .nils, .nils, .nils] false] ++ K := ⟨_, rfl⟩
  have f0 : Hp[0]? = some (.cells [I n.wind.lo, I n.wind.hi, I n.cur.lo, I n.cur.hi, g, a, w] false) := by rw [hHp]; rfl
  have f1 : Hp[1]? = some (.cells [I 0, I 0, I 0, I 0, .nils, .nils, .nils] false) := by rw [hHp]; rfl
  rw [← hHp] at C ⊢
  have n1 := at_len f1
  have ng := at_len C.g; have na := at_len C.a; have nw := at_len C.w
  simp only [len0, lenS] at lg la lw
  clear hHp q
  simp (disch := first | assumption | omega | (simp only [az]; done)) only [ru, eq_self, if_true, if_false, BEq.rfl, binI, AO.row?, splice, fillL, mmAll, loadV, storeV, zeros, Am.rowAt, Am.part, addOff, Nat.reduceAdd, Nat.reduceMul, Nat.reduceLeDiff, Nat.reduceSub, Nat.reduceLT, Int.reduceEq, Int.reduceLT, Int.reduceLE, Int.reduceGT, Int.reduceGE, Int.reduceAdd, Int.reduceSub, Int.reduceMul, Int.reduceNeg, Int.reduceToNat, reduceCtorEq, reduceIte]
  have T : TH n g a w og oa ow Hp.length (mixR n.ancs 0) (mixR n.walls 0) (Hp ++ [.cells [I n.wind.lo, I n.wind.hi, I n.cur.lo, I n.cur.hi, .ms 2 og 0 n.grips.length, .ms 2 oa 0 n.ancs.length, .ms 5 ow 0 n.walls.length] false]) := by
    refine ⟨by rw [at_lt1 (by omega)]; exact f0, by rw [at_lt1 (by omega)]; exact f1, atE, by rw [at_lt1 (by omega)]; exact C.g, by rw [at_lt1 (by omega)]; exact C.a, by rw [at_lt1 (by omega)]; exact C.w, ?_, ?_, by omega⟩
    · have := C.ga; have := C.aw; omega
    · have := C.gw; have := C.aw; omega
  refine G_loop_ind (fun m ts h mk => ∃ (i : Nat), i ≤ n.ancs.length ∧ m = n.ancs.length - i ∧ TH n g a w og oa ow Hp.length (mixR n.ancs i) (mixR n.walls 0) h ∧ ts.length = 51 ∧ ts.getD 1 .undef = .ptr 0 0 ∧ ts.getD 2 .undef = .ptr 1 0 ∧
    ts.getD 3 .undef = .ptr Hp.length 0 ∧ ts.getD 4 .undef = I i ∧ mk = []) ?_ _ _ _ _ ⟨0, Nat.zero_le _, rfl, T, rfl, rfl, rfl, rfl, rfl, rfl⟩
  clear T C
  rintro m ts h mk ih ⟨i, hi, rfl, T, hl, q1, q2, q3, q4, rfl⟩
  rw [lit_all hl]
  simp only [lit0, litS, Nat.reduceAdd, q1, q2, q3, q4]
  have t0 := T.f0; have tp := T.fp; have ta := T.a
  simp (disch := first | assumption | omega | (simp only [az]; done)) only [ru, eq_self, if_true, if_false, BEq.rfl, binI, AO.row?, splice, fillL, mmAll, loadV, storeV, zeros, Am.rowAt, Am.part, addOff, Nat.reduceAdd, Nat.reduceMul, Nat.reduceLeDiff, Nat.reduceSub, Nat.reduceLT, Int.reduceEq, Int.reduceLT, Int.reduceLE, Int.reduceGT, Int.reduceGE, Int.reduceAdd, Int.reduceSub, Int.reduceMul, Int.reduceNeg, Int.reduceToNat, reduceCtorEq, reduceIte, lenV_sl H.g, lenV_sl H.a, lenV_sl H.w, elem_sl Spn.el H.g, elem_sl Anc.el H.a, elem_sl Wal.el H.w, view_sl H.g, view_sl H.a, view_sl H.w, scalar_sl H.g, scalar_sl H.a, scalar_sl H.w, cells_sl H.g, cells_sl H.a, cells_sl H.w, pure_sl H.g, pure_sl H.a, pure_sl H.w, Spn.e, Anc.e, Wal.e, Spn.eta, Anc.eta, Wal.eta, Int.toNat_natCast, t0]
  by_cases hlt : (i : Int) < n.ancs.length
  case pos =>
    have hi' : i < n.ancs.length := by omega
    have htn : ((n.ancs.length : Int) - 1 - (i : Int)).toNat = n.ancs.length - 1 - i := by omega
    have hlen : i * 2 + 2 ≤ ((mixR n.ancs i).flatMap Anc.e).length := by rw [flat_len Anc.el, mixR_len hi]; omega
    obtain ⟨v, hv⟩ : ∃ v, v = n.ancs.getD (n.ancs.length - 1 - i) default := ⟨_, rfl⟩
    have hput := flat_put Anc.el v (mixR n.ancs i) i (by rw [mixR_len hi]; exact hi')
    rw [hv, mixR_set hi', ← hv] at hput
    simp only [Anc.e] at hput
    simp (disch := first | assumption | omega | (simp only [az]; done)) only [ru, eq_self, if_true, if_false, BEq.rfl, binI, AO.row?, splice, fillL, mmAll, loadV, storeV, zeros, Am.rowAt, Am.part, addOff, Nat.reduceAdd, Nat.reduceMul, Nat.reduceLeDiff, Nat.reduceSub, Nat.reduceLT, Int.reduceEq, Int.reduceLT, Int.reduceLE, Int.reduceGT, Int.reduceGE, Int.reduceAdd, Int.reduceSub, Int.reduceMul, Int.reduceNeg, Int.reduceToNat, reduceCtorEq, reduceIte, lenV_sl H.g, lenV_sl H.a, lenV_sl H.w, elem_sl Spn.el H.g, elem_sl Anc.el H.a, elem_sl Wal.el H.w, view_sl H.g, view_sl H.a, view_sl H.w, scalar_sl H.g, scalar_sl H.a, scalar_sl H.w, cells_sl H.g, cells_sl H.a, cells_sl H.w, pure_sl H.g, pure_sl H.a, pure_sl H.w, Spn.e, Anc.e, Wal.e, Spn.eta, Anc.eta, Wal.eta, Int.toNat_natCast, t0, tp, ta, hlt, hlen, htn, ← hv, hput]
    exact ih (n.ancs.length - (i + 1)) _ _ _ (by omega) ⟨i + 1, by omega, rfl, T.putA, rfl, rfl, rfl, rfl, rfl, rfl⟩
  obtain rfl : i = n.ancs.length := by omega
  rw [mixR_all] at T
  clear ih t0 tp ta hl q1 q2 q3 q4 hi
  simp (disch := first | assumption | omega | (simp only [az]; done)) only [ru, eq_self, if_true, if_false, BEq.rfl, binI, AO.row?, splice, fillL, mmAll, loadV, storeV, zeros, Am.rowAt, Am.part, addOff, Nat.reduceAdd, Nat.reduceMul, Nat.reduceLeDiff, Nat.reduceSub, Nat.reduceLT, Int.reduceEq, Int.reduceLT, Int.reduceLE, Int.reduceGT, Int.reduceGE, Int.reduceAdd, Int.reduceSub, Int.reduceMul, Int.reduceNeg, Int.reduceToNat, reduceCtorEq, reduceIte, hlt]
  refine G_loop_ind (fun m ts h mk => ∃ (i : Nat), i ≤ n.walls.length ∧ m = n.walls.length - i ∧ TH n g a w og oa ow Hp.length n.ancs.reverse (mixR n.walls i) h ∧ ts.length = 51 ∧ ts.getD 1 .undef = .ptr 0 0 ∧ ts.getD 2 .undef = .ptr 1 0 ∧
    ts.getD 3 .undef = .ptr Hp.length 0 ∧ ts.getD 5 .undef = I i ∧ mk = []) ?_ _ _ _ _ ⟨0, Nat.zero_le _, rfl, T, rfl, rfl, rfl, rfl, rfl, rfl⟩
  clear T
  rintro m ts h mk ih ⟨i, hi, rfl, T, hl, q1, q2, q3, q5, rfl⟩
  rw [lit_all hl]
  simp only [lit0, litS, Nat.reduceAdd, q1, q2, q3, q5]
  have t0 := T.f0; have tp := T.fp; have tw := T.w
  simp (disch := first | assumption | omega | (simp only [az]; done)) only [ru, eq_self, if_true, if_false, BEq.rfl, binI, AO.row?, splice, fillL, mmAll, loadV, storeV, zeros, Am.rowAt, Am.part, addOff, Nat.reduceAdd, Nat.reduceMul, Nat.reduceLeDiff, Nat.reduceSub, Nat.reduceLT, Int.reduceEq, Int.reduceLT, Int.reduceLE, Int.reduceGT, Int.reduceGE, Int.reduceAdd, Int.reduceSub, Int.reduceMul, Int.reduceNeg, Int.reduceToNat, reduceCtorEq, reduceIte, lenV_sl H.g, lenV_sl H.a, lenV_sl H.w, elem_sl Spn.el H.g, elem_sl Anc.el H.a, elem_sl Wal.el H.w, view_sl H.g, view_sl H.a, view_sl H.w, scalar_sl H.g, scalar_sl H.a, scalar_sl H.w, cells_sl H.g, cells_sl H.a, cells_sl H.w, pure_sl H.g, pure_sl H.a, pure_sl H.w, Spn.e, Anc.e, Wal.e, Spn.eta, Anc.eta, Wal.eta, Int.toNat_natCast, t0]
  by_cases hlt : (i : Int) < n.walls.length
  case pos =>
    have hi' : i < n.walls.length := by omega
    have htn : ((n.walls.length : Int) - 1 - (i : Int)).toNat = n.walls.length - 1 - i := by omega
    have hlen : i * 5 + 5 ≤ ((mixR n.walls i).flatMap Wal.e).length := by rw [flat_len Wal.el, mixR_len hi]; omega
    obtain ⟨v, hv⟩ : ∃ v, v = n.walls.getD (n.walls.length - 1 - i) default := ⟨_, rfl⟩
    have hput := flat_put Wal.el v (mixR n.walls i) i (by rw [mixR_len hi]; exact hi')
    rw [hv, mixR_set hi', ← hv] at hput
    simp only [Wal.e] at hput
    simp (disch := first | assumption | omega | (simp only [az]; done)) only [ru, eq_self, if_true, if_false, BEq.rfl, binI, AO.row?, splice, fillL, mmAll, loadV, storeV, zeros, Am.rowAt, Am.part, addOff, Nat.reduceAdd, Nat.reduceMul, Nat.reduceLeDiff, Nat.reduceSub, Nat.reduceLT, Int.reduceEq, Int.reduceLT, Int.reduceLE, Int.reduceGT, Int.reduceGE, Int.reduceAdd, Int.reduceSub, Int.reduceMul, Int.reduceNeg, Int.reduceToNat, reduceCtorEq, reduceIte, lenV_sl H.g, lenV_sl H.a, lenV_sl H.w, elem_sl Spn.el H.g, elem_sl Anc.el H.a, elem_sl Wal.el H.w, view_sl H.g, view_sl H.a, view_sl H.w, scalar_sl H.g, scalar_sl H.a, scalar_sl H.w, cells_sl H.g, cells_sl H.a, cells_sl H.w, pure_sl H.g, pure_sl H.a, pure_sl H.w, Spn.e, Anc.e, Wal.e, Spn.eta, Anc.eta, Wal.eta, Int.toNat_natCast, t0, tp, tw, hlt, hlen, htn, ← hv, hput]
    exact ih (n.walls.length - (i + 1)) _ _ _ (by omega) ⟨i + 1, by omega, rfl, T.putW, rfl, rfl, rfl, rfl, rfl, rfl⟩
  obtain rfl : i = n.walls.length := by omega
  rw [mixR_all] at T
  obtain ⟨u0, u1, up, ug, ua, uw, ⟨d1, d2, d3, d4, d5⟩, ⟨c1, c2, c3, c4, c5⟩, d6⟩ := T
  have d2' := d2.symm; have c2' := c2.symm; have d6' := d6.symm
  have nh := at_len u1
  have tg := flat_take (l := n.grips) Spn.el
  have tw' := flat_take (l := n.walls.reverse) Wal.el
  have ta' := flat_take (l := n.ancs.reverse) Anc.el
  have ea := flat_len Anc.el n.ancs.reverse
  have ew := flat_len Wal.el n.walls.reverse
  rw [List.length_reverse] at tw' ta' ea ew
  simp (disch := first | assumption | omega | (simp only [az]; done)) only [ru, eq_self, if_true, if_false, BEq.rfl, binI, AO.row?, splice, fillL, mmAll, loadV, storeV, zeros, Am.rowAt, Am.part, addOff, Nat.reduceAdd, Nat.reduceMul, Nat.reduceLeDiff, Nat.reduceSub, Nat.reduceLT, Int.reduceEq, Int.reduceLT, Int.reduceLE, Int.reduceGT, Int.reduceGE, Int.reduceAdd, Int.reduceSub, Int.reduceMul, Int.reduceNeg, Int.reduceToNat, reduceCtorEq, reduceIte, hlt, up, u1, ug, ua, uw, at_ne, at_set, ceMs, scMs, finC, getRes, Option.some.injEq, exists_eq_left', tg, tw', ta', ea, ew, flat_len Spn.el, flat_view Spn.iv, flat_view Anc.iv, flat_view Wal.iv]
  simp only [netC, turned, slV, List.length_reverse]
end Go.Proofs.Ytpflneddfhifkaa.S
