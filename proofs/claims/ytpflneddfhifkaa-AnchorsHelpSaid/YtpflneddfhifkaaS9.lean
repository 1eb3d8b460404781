import Derived.Test.YtpflneddfhifkaaS8
import Derived.Test.YtpflneddfhifkaaWk
namespace Go.Proofs.Ytpflneddfhifkaa.S
open Go Go.Am Go.Proofs.Ytpflneddfhifkaa.T
set_option maxRecDepth 100000
set_option linter.unusedSimpArgs false
set_option linter.unusedVariables false




theorem s16 (st : Bool) : Iso E 16 [] st = some (Bo true) := by
  obtain ⟨h', hr⟩ := R_res works_run
  simp only [Iso, hr, view_bool]

theorem s15 {n : Net} {g a w q : AV} (Hg : IsSl 2 Spn.e n.grips g) (Ha : IsSl 2 Anc.e n.ancs a) (Hw : IsSl 5 Wal.e n.walls w) {l : List Int} (Hq : IsSl 1 (fun n => [I n]) l q) (wi cu : Int) (st : Bool) :
    Iso E 15 [netV n g a w, .agg [I wi, I cu, q]] st = some (Bo (decide ((n.grips.length : Int) > 40) || (decide ((n.ancs.length : Int) > 40) || (decide ((n.walls.length : Int) > 40) || decide ((l.length : Int) > 40))))) := by
  refine Iso_of (es _ _ _ _) e15 ?_
  simp only [f15, netV]
  simp (disch := first | assumption | omega | (simp only [az]; done)) only [ru, eq_self, if_true, if_false, BEq.rfl, binI, AO.row?, splice, fillL, mmAll, loadV, storeV, zeros, Am.rowAt, Am.part, addOff, Nat.reduceAdd, Nat.reduceMul, Nat.reduceLeDiff, Nat.reduceSub, Nat.reduceLT, Int.reduceEq, Int.reduceLT, Int.reduceLE, Int.reduceGT, Int.reduceGE, Int.reduceAdd, Int.reduceSub, Int.reduceMul, Int.reduceNeg, Int.reduceToNat, reduceCtorEq, reduceIte, lenV_sl Hg, lenV_sl Ha, lenV_sl Hw, lenV_sl Hq, gt_iff_lt] ; repeat' ((first | refine GG_split (fun hb => ?_) (fun hb => ?_) | refine GC_split (fun hb => ?_) (fun hb => ?_)) <;> simp (disch := first | assumption | omega | (simp only [az]; done)) only [ru, eq_self, if_true, if_false, BEq.rfl, binI, AO.row?, splice, fillL, mmAll, loadV, storeV, zeros, Am.rowAt, Am.part, addOff, Nat.reduceAdd, Nat.reduceMul, Nat.reduceLeDiff, Nat.reduceSub, Nat.reduceLT, Int.reduceEq, Int.reduceLT, Int.reduceLE, Int.reduceGT, Int.reduceGE, Int.reduceAdd, Int.reduceSub, Int.reduceMul, Int.reduceNeg, Int.reduceToNat, reduceCtorEq, reduceIte, lenV_sl Hg, lenV_sl Ha, lenV_sl Hw, lenV_sl Hq, gt_iff_lt, hb])
  all_goals (simp_all)

theorem slV_sc {α : Type} {e : Nat} {enc : α → List AV} {l : List α} : (slV e enc l).scalar = true := id rfl
theorem slV_ce {α : Type} {e : Nat} {enc : α → List AV} {l : List α} : (slV e enc l).cells = [slV e enc l] := id rfl
theorem slV_vi {α : Type} {e : Nat} {enc : α → List AV} {l : List α} {h : List AO} {n : Nat} : view false h n (slV e enc l) = some (slV e enc l) := by cases n <;> rfl

theorem s24 {n : Net} {g a w g' a' w' : AV} (H : NetOk n g a w) (H' : NetOk n g' a' w') (st : Bool) : Iso E 24 [netV n g a w, netV n g' a' w'] st = some (Bo true) := by
  have sg := H.sg; have sa := H.sa; have sw := H.sw
  refine Iso_of (es _ _ _ _) e24 ?_
  simp only [f24, netV]
  simp (disch := first | assumption | omega | (simp only [az]; done)) only [ru, eq_self, if_true, if_false, BEq.rfl, binI, AO.row?, splice, fillL, mmAll, loadV, storeV, zeros, Am.rowAt, Am.part, addOff, Nat.reduceAdd, Nat.reduceMul, Nat.reduceLeDiff, Nat.reduceSub, Nat.reduceLT, Int.reduceEq, Int.reduceLT, Int.reduceLE, Int.reduceGT, Int.reduceGE, Int.reduceAdd, Int.reduceSub, Int.reduceMul, Int.reduceNeg, Int.reduceToNat, reduceCtorEq, reduceIte, lenV_sl H.g, lenV_sl H.a, lenV_sl H.w, elem_sl Spn.el H.g, elem_sl Anc.el H.a, elem_sl Wal.el H.w, view_sl H.g, view_sl H.a, view_sl H.w, scalar_sl H.g, scalar_sl H.a, scalar_sl H.w, cells_sl H.g, cells_sl H.a, cells_sl H.w, pure_sl H.g, pure_sl H.a, pure_sl H.w, Spn.e, Anc.e, Wal.e, Spn.eta, Anc.eta, Wal.eta, Int.toNat_natCast, lenV_sl H'.g, lenV_sl H'.a, lenV_sl H'.w]
  refine G_loop_ind (fun m ts h mk => ∃ i : Nat, i ≤ n.grips.length ∧ m = n.grips.length - i ∧ ts.length = 101 ∧
    ts.getD 2 .undef = .ptr 0 0 ∧ ts.getD 3 .undef = .ptr 1 0 ∧ ts.getD 5 .undef = I i ∧ h = [.cells [I n.wind.lo, I n.wind.hi, I n.cur.lo, I n.cur.hi, g, a, w] false, .cells [I n.wind.lo, I n.wind.hi, I n.cur.lo, I n.cur.hi, g', a', w'] false] ∧ mk = []) ?_ _ _ _ _ ⟨0, Nat.zero_le _, rfl, rfl, rfl, rfl, rfl, rfl, rfl⟩
  rintro m ts h mk ih ⟨i, hi, rfl, hl, h2, h3, h5, rfl, rfl⟩
  rw [lit_all hl]
  simp only [lit0, litS, Nat.reduceAdd, h2, h3, h5]
  simp (disch := first | assumption | omega | (simp only [az]; done)) only [ru, eq_self, if_true, if_false, BEq.rfl, binI, AO.row?, splice, fillL, mmAll, loadV, storeV, zeros, Am.rowAt, Am.part, addOff, Nat.reduceAdd, Nat.reduceMul, Nat.reduceLeDiff, Nat.reduceSub, Nat.reduceLT, Int.reduceEq, Int.reduceLT, Int.reduceLE, Int.reduceGT, Int.reduceGE, Int.reduceAdd, Int.reduceSub, Int.reduceMul, Int.reduceNeg, Int.reduceToNat, reduceCtorEq, reduceIte, lenV_sl H.g, lenV_sl H.a, lenV_sl H.w, elem_sl Spn.el H.g, elem_sl Anc.el H.a, elem_sl Wal.el H.w, view_sl H.g, view_sl H.a, view_sl H.w, scalar_sl H.g, scalar_sl H.a, scalar_sl H.w, cells_sl H.g, cells_sl H.a, cells_sl H.w, pure_sl H.g, pure_sl H.a, pure_sl H.w, Spn.e, Anc.e, Wal.e, Spn.eta, Anc.eta, Wal.eta, Int.toNat_natCast]
  by_cases hlt : (i : Int) < n.grips.length
  case pos =>
    simp (disch := first | assumption | omega | (simp only [az]; done)) only [ru, eq_self, if_true, if_false, BEq.rfl, binI, AO.row?, splice, fillL, mmAll, loadV, storeV, zeros, Am.rowAt, Am.part, addOff, Nat.reduceAdd, Nat.reduceMul, Nat.reduceLeDiff, Nat.reduceSub, Nat.reduceLT, Int.reduceEq, Int.reduceLT, Int.reduceLE, Int.reduceGT, Int.reduceGE, Int.reduceAdd, Int.reduceSub, Int.reduceMul, Int.reduceNeg, Int.reduceToNat, reduceCtorEq, reduceIte, lenV_sl H.g, lenV_sl H.a, lenV_sl H.w, elem_sl Spn.el H.g, elem_sl Anc.el H.a, elem_sl Wal.el H.w, view_sl H.g, view_sl H.a, view_sl H.w, scalar_sl H.g, scalar_sl H.a, scalar_sl H.w, cells_sl H.g, cells_sl H.a, cells_sl H.w, pure_sl H.g, pure_sl H.a, pure_sl H.w, Spn.e, Anc.e, Wal.e, Spn.eta, Anc.eta, Wal.eta, Int.toNat_natCast, hlt, elem_sl Spn.el H'.g]
    exact ih (n.grips.length - (i + 1)) _ _ _ (by omega) ⟨i + 1, by omega, rfl, rfl, rfl, rfl, rfl, rfl, rfl⟩
  clear ih h2 h3 h5 hl
  simp (disch := first | assumption | omega | (simp only [az]; done)) only [ru, eq_self, if_true, if_false, BEq.rfl, binI, AO.row?, splice, fillL, mmAll, loadV, storeV, zeros, Am.rowAt, Am.part, addOff, Nat.reduceAdd, Nat.reduceMul, Nat.reduceLeDiff, Nat.reduceSub, Nat.reduceLT, Int.reduceEq, Int.reduceLT, Int.reduceLE, Int.reduceGT, Int.reduceGE, Int.reduceAdd, Int.reduceSub, Int.reduceMul, Int.reduceNeg, Int.reduceToNat, reduceCtorEq, reduceIte, hlt]
  clear hlt hi
  refine G_loop_ind (fun m ts h mk => ∃ i : Nat, i ≤ n.ancs.length ∧ m = n.ancs.length - i ∧ ts.length = 101 ∧
    ts.getD 2 .undef = .ptr 0 0 ∧ ts.getD 3 .undef = .ptr 1 0 ∧ ts.getD 6 .undef = I i ∧ h = [.cells [I n.wind.lo, I n.wind.hi, I n.cur.lo, I n.cur.hi, g, a, w] false, .cells [I n.wind.lo, I n.wind.hi, I n.cur.lo, I n.cur.hi, g', a', w'] false] ∧ mk = []) ?_ _ _ _ _ ⟨0, Nat.zero_le _, rfl, rfl, rfl, rfl, rfl, rfl, rfl⟩
  rintro m ts h mk ih ⟨i, hi, rfl, hl, h2, h3, h5, rfl, rfl⟩
  rw [lit_all hl]
  simp only [lit0, litS, Nat.reduceAdd, h2, h3, h5]
  simp (disch := first | assumption | omega | (simp only [az]; done)) only [ru, eq_self, if_true, if_false, BEq.rfl, binI, AO.row?, splice, fillL, mmAll, loadV, storeV, zeros, Am.rowAt, Am.part, addOff, Nat.reduceAdd, Nat.reduceMul, Nat.reduceLeDiff, Nat.reduceSub, Nat.reduceLT, Int.reduceEq, Int.reduceLT, Int.reduceLE, Int.reduceGT, Int.reduceGE, Int.reduceAdd, Int.reduceSub, Int.reduceMul, Int.reduceNeg, Int.reduceToNat, reduceCtorEq, reduceIte, lenV_sl H.g, lenV_sl H.a, lenV_sl H.w, elem_sl Spn.el H.g, elem_sl Anc.el H.a, elem_sl Wal.el H.w, view_sl H.g, view_sl H.a, view_sl H.w, scalar_sl H.g, scalar_sl H.a, scalar_sl H.w, cells_sl H.g, cells_sl H.a, cells_sl H.w, pure_sl H.g, pure_sl H.a, pure_sl H.w, Spn.e, Anc.e, Wal.e, Spn.eta, Anc.eta, Wal.eta, Int.toNat_natCast]
  by_cases hlt : (i : Int) < n.ancs.length
  case pos =>
    simp (disch := first | assumption | omega | (simp only [az]; done)) only [ru, eq_self, if_true, if_false, BEq.rfl, binI, AO.row?, splice, fillL, mmAll, loadV, storeV, zeros, Am.rowAt, Am.part, addOff, Nat.reduceAdd, Nat.reduceMul, Nat.reduceLeDiff, Nat.reduceSub, Nat.reduceLT, Int.reduceEq, Int.reduceLT, Int.reduceLE, Int.reduceGT, Int.reduceGE, Int.reduceAdd, Int.reduceSub, Int.reduceMul, Int.reduceNeg, Int.reduceToNat, reduceCtorEq, reduceIte, lenV_sl H.g, lenV_sl H.a, lenV_sl H.w, elem_sl Spn.el H.g, elem_sl Anc.el H.a, elem_sl Wal.el H.w, view_sl H.g, view_sl H.a, view_sl H.w, scalar_sl H.g, scalar_sl H.a, scalar_sl H.w, cells_sl H.g, cells_sl H.a, cells_sl H.w, pure_sl H.g, pure_sl H.a, pure_sl H.w, Spn.e, Anc.e, Wal.e, Spn.eta, Anc.eta, Wal.eta, Int.toNat_natCast, hlt, elem_sl Anc.el H'.a]
    exact ih (n.ancs.length - (i + 1)) _ _ _ (by omega) ⟨i + 1, by omega, rfl, rfl, rfl, rfl, rfl, rfl, rfl⟩
  clear ih h2 h3 h5 hl
  simp (disch := first | assumption | omega | (simp only [az]; done)) only [ru, eq_self, if_true, if_false, BEq.rfl, binI, AO.row?, splice, fillL, mmAll, loadV, storeV, zeros, Am.rowAt, Am.part, addOff, Nat.reduceAdd, Nat.reduceMul, Nat.reduceLeDiff, Nat.reduceSub, Nat.reduceLT, Int.reduceEq, Int.reduceLT, Int.reduceLE, Int.reduceGT, Int.reduceGE, Int.reduceAdd, Int.reduceSub, Int.reduceMul, Int.reduceNeg, Int.reduceToNat, reduceCtorEq, reduceIte, hlt]
  clear hlt hi
  refine G_loop_ind (fun m ts h mk => ∃ i : Nat, i ≤ n.walls.length ∧ m = n.walls.length - i ∧ ts.length = 101 ∧
    ts.getD 2 .undef = .ptr 0 0 ∧ ts.getD 3 .undef = .ptr 1 0 ∧ ts.getD 7 .undef = I i ∧ h = [.cells [I n.wind.lo, I n.wind.hi, I n.cur.lo, I n.cur.hi, g, a, w] false, .cells [I n.wind.lo, I n.wind.hi, I n.cur.lo, I n.cur.hi, g', a', w'] false] ∧ mk = []) ?_ _ _ _ _ ⟨0, Nat.zero_le _, rfl, rfl, rfl, rfl, rfl, rfl, rfl⟩
  rintro m ts h mk ih ⟨i, hi, rfl, hl, h2, h3, h5, rfl, rfl⟩
  rw [lit_all hl]
  simp only [lit0, litS, Nat.reduceAdd, h2, h3, h5]
  simp (disch := first | assumption | omega | (simp only [az]; done)) only [ru, eq_self, if_true, if_false, BEq.rfl, binI, AO.row?, splice, fillL, mmAll, loadV, storeV, zeros, Am.rowAt, Am.part, addOff, Nat.reduceAdd, Nat.reduceMul, Nat.reduceLeDiff, Nat.reduceSub, Nat.reduceLT, Int.reduceEq, Int.reduceLT, Int.reduceLE, Int.reduceGT, Int.reduceGE, Int.reduceAdd, Int.reduceSub, Int.reduceMul, Int.reduceNeg, Int.reduceToNat, reduceCtorEq, reduceIte, lenV_sl H.g, lenV_sl H.a, lenV_sl H.w, elem_sl Spn.el H.g, elem_sl Anc.el H.a, elem_sl Wal.el H.w, view_sl H.g, view_sl H.a, view_sl H.w, scalar_sl H.g, scalar_sl H.a, scalar_sl H.w, cells_sl H.g, cells_sl H.a, cells_sl H.w, pure_sl H.g, pure_sl H.a, pure_sl H.w, Spn.e, Anc.e, Wal.e, Spn.eta, Anc.eta, Wal.eta, Int.toNat_natCast]
  by_cases hlt : (i : Int) < n.walls.length
  case pos =>
    simp (disch := first | assumption | omega | (simp only [az]; done)) only [ru, eq_self, if_true, if_false, BEq.rfl, binI, AO.row?, splice, fillL, mmAll, loadV, storeV, zeros, Am.rowAt, Am.part, addOff, Nat.reduceAdd, Nat.reduceMul, Nat.reduceLeDiff, Nat.reduceSub, Nat.reduceLT, Int.reduceEq, Int.reduceLT, Int.reduceLE, Int.reduceGT, Int.reduceGE, Int.reduceAdd, Int.reduceSub, Int.reduceMul, Int.reduceNeg, Int.reduceToNat, reduceCtorEq, reduceIte, lenV_sl H.g, lenV_sl H.a, lenV_sl H.w, elem_sl Spn.el H.g, elem_sl Anc.el H.a, elem_sl Wal.el H.w, view_sl H.g, view_sl H.a, view_sl H.w, scalar_sl H.g, scalar_sl H.a, scalar_sl H.w, cells_sl H.g, cells_sl H.a, cells_sl H.w, pure_sl H.g, pure_sl H.a, pure_sl H.w, Spn.e, Anc.e, Wal.e, Spn.eta, Anc.eta, Wal.eta, Int.toNat_natCast, hlt, elem_sl Wal.el H'.w]
    exact ih (n.walls.length - (i + 1)) _ _ _ (by omega) ⟨i + 1, by omega, rfl, rfl, rfl, rfl, rfl, rfl, rfl⟩
  simp (disch := first | assumption | omega | (simp only [az]; done)) only [ru, eq_self, if_true, if_false, BEq.rfl, binI, AO.row?, splice, fillL, mmAll, loadV, storeV, zeros, Am.rowAt, Am.part, addOff, Nat.reduceAdd, Nat.reduceMul, Nat.reduceLeDiff, Nat.reduceSub, Nat.reduceLT, Int.reduceEq, Int.reduceLT, Int.reduceLE, Int.reduceGT, Int.reduceGE, Int.reduceAdd, Int.reduceSub, Int.reduceMul, Int.reduceNeg, Int.reduceToNat, reduceCtorEq, reduceIte, hlt]

/-- a net as it is handed in: of any size -/
structure NetIn (n : Net) (g a w : AV) : Prop where
  g : IsSl 2 Spn.e n.grips g
  a : IsSl 2 Anc.e n.ancs a
  w : IsSl 5 Wal.e n.walls w

theorem int0 : IsSl 1 (fun n => [I n]) [] .nils := .inr ⟨rfl, rfl⟩

theorem s3 {n : Net} {g a w : AV} (H0 : NetIn n g a w) (x wi cu : Int) (st : Bool) : Iso E 3 [netV n g a w, .agg [I x, I wi, I cu]] st = some (Bo true) := by
  refine Iso_of (es _ _ _ _) e3 ?_
  simp only [f3, netV]
  simp (disch := first | assumption | omega | (simp only [az]; done)) only [ru, eq_self, if_true, if_false, BEq.rfl, binI, AO.row?, splice, fillL, mmAll, loadV, storeV, zeros, Am.rowAt, Am.part, addOff, Nat.reduceAdd, Nat.reduceMul, Nat.reduceLeDiff, Nat.reduceSub, Nat.reduceLT, Int.reduceEq, Int.reduceLT, Int.reduceLE, Int.reduceGT, Int.reduceGE, Int.reduceAdd, Int.reduceSub, Int.reduceMul, Int.reduceNeg, Int.reduceToNat, reduceCtorEq, reduceIte, s15 H0.g H0.a H0.w int0, view_sl H0.g, view_sl H0.a, view_sl H0.w]
  by_cases hs : n.grips.length ≤ 40 ∧ n.ancs.length ≤ 40 ∧ n.walls.length ≤ 40
  case neg =>
    have hb : (decide ((n.grips.length : Int) > 40) || (decide ((n.ancs.length : Int) > 40) || (decide ((n.walls.length : Int) > 40) || false))) = true := by
      simp only [Bool.or_false, Bool.or_eq_true, decide_eq_true_eq]; omega
    simp (disch := first | assumption | omega | (simp only [az]; done)) only [ru, eq_self, if_true, if_false, BEq.rfl, binI, AO.row?, splice, fillL, mmAll, loadV, storeV, zeros, Am.rowAt, Am.part, addOff, Nat.reduceAdd, Nat.reduceMul, Nat.reduceLeDiff, Nat.reduceSub, Nat.reduceLT, Int.reduceEq, Int.reduceLT, Int.reduceLE, Int.reduceGT, Int.reduceGE, Int.reduceAdd, Int.reduceSub, Int.reduceMul, Int.reduceNeg, Int.reduceToNat, reduceCtorEq, reduceIte, hb, s16]
  obtain ⟨sg, sa, sw⟩ := hs
  have H : NetOk n g a w := ⟨H0.g, H0.a, H0.w, sg, sa, sw⟩
  have C := H.c
  have h1 : ¬ (n.grips.length : Int) > 40 := by omega
  have h2 : ¬ (n.ancs.length : Int) > 40 := by omega
  have h3 : ¬ (n.walls.length : Int) > 40 := by omega
  simp (disch := first | assumption | omega | (simp only [az]; done)) only [ru, eq_self, if_true, if_false, BEq.rfl, binI, AO.row?, splice, fillL, mmAll, loadV, storeV, zeros, Am.rowAt, Am.part, addOff, Nat.reduceAdd, Nat.reduceMul, Nat.reduceLeDiff, Nat.reduceSub, Nat.reduceLT, Int.reduceEq, Int.reduceLT, Int.reduceLE, Int.reduceGT, Int.reduceGE, Int.reduceAdd, Int.reduceSub, Int.reduceMul, Int.reduceNeg, Int.reduceToNat, reduceCtorEq, reduceIte, lenV_sl H.g, lenV_sl H.a, lenV_sl H.w, elem_sl Spn.el H.g, elem_sl Anc.el H.a, elem_sl Wal.el H.w, view_sl H.g, view_sl H.a, view_sl H.w, scalar_sl H.g, scalar_sl H.a, scalar_sl H.w, cells_sl H.g, cells_sl H.a, cells_sl H.w, pure_sl H.g, pure_sl H.a, pure_sl H.w, Spn.e, Anc.e, Wal.e, Spn.eta, Anc.eta, Wal.eta, Int.toNat_natCast, h1, h2, h3, Bool.or_self, s17 H, s18 C, s19 H, s20 C, s21 H, s22 C, s23 H, s24 C H, s16, slV_sc, slV_ce, slV_vi]
end Go.Proofs.Ytpflneddfhifkaa.S
