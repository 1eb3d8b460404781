/-
What a law of stage 2 that compares with nothing asks of its inputs; lists that rise, parts of lists.
-/
import Derived.Test.YtpflneddfhifkaaIn2
namespace Go.Proofs.Ytpflneddfhifkaa.S
open Go Go.Am Go.Proofs.Ytpflneddfhifkaa.T
set_option maxRecDepth 100000
set_option linter.unusedSimpArgs false
set_option linter.unusedVariables false



def Rises (l : List Int) (lo hi : Int) : Prop := ∀ i, i < l.length → inR (l.getD i default) lo hi = true ∧ (0 < i → l.getD (i - 1) default < l.getD i default)
theorem s53 {l : List Int} {v : AV} (hv : IsSl 1 (fun n => [I n]) l v) (hl : l.length ≤ 1000000) {lo hi : Int} (hr : Rises l lo hi) (st : Bool) : Iso E 53 [v, I lo, I hi] st = some (Bo true) := by
  refine Iso_of (es _ _ _ _) e53 ?_
  simp only [f53]
  simp (disch := first | assumption | omega | (simp only [az]; done)) only [ru, eq_self, if_true, if_false, BEq.rfl, binI, AO.row?, splice, fillL, mmAll, loadV, storeV, zeros, Am.rowAt, Am.part, addOff, Nat.reduceAdd, Nat.reduceMul, Nat.reduceLeDiff, Nat.reduceSub, Nat.reduceLT, Int.reduceEq, Int.reduceLT, Int.reduceLE, Int.reduceGT, Int.reduceGE, Int.reduceAdd, Int.reduceSub, Int.reduceMul, Int.reduceNeg, Int.reduceToNat, reduceCtorEq, reduceIte]
  refine G_loop_ind (fun m ts h mk => ∃ i : Nat, i ≤ l.length ∧ m = l.length - i ∧ ts.length = 38 ∧ ts.getD 0 .undef = v ∧ ts.getD 1 .undef = I lo ∧ ts.getD 2 .undef = I hi ∧ ts.getD 7 .undef = I i ∧ h = [] ∧ mk = []) ?_ _ _ _ _ ⟨0, Nat.zero_le _, rfl, rfl, rfl, rfl, rfl, rfl, rfl, rfl⟩
  rintro m ts h mk ih ⟨i, hi', rfl, hl', q0, q1, q2, q7, rfl, rfl⟩
  rw [lit_all hl']
  simp only [lit0, litS, Nat.reduceAdd, q0, q1, q2, q7]
  simp (disch := first | assumption | omega | (simp only [az]; done)) only [ru, eq_self, if_true, if_false, BEq.rfl, binI, AO.row?, splice, fillL, mmAll, loadV, storeV, zeros, Am.rowAt, Am.part, addOff, Nat.reduceAdd, Nat.reduceMul, Nat.reduceLeDiff, Nat.reduceSub, Nat.reduceLT, Int.reduceEq, Int.reduceLT, Int.reduceLE, Int.reduceGT, Int.reduceGE, Int.reduceAdd, Int.reduceSub, Int.reduceMul, Int.reduceNeg, Int.reduceToNat, reduceCtorEq, reduceIte, lenV_sl hv]
  by_cases hlt : (i : Int) < l.length
  case pos =>
    obtain ⟨r1, r2⟩ := hr i (by omega)
    by_cases h0 : (i : Int) > 0
    · have r3 := r2 (by omega)
      have e1 : (i : Int) - 1 = ((i - 1 : Nat) : Int) := by omega
      have r4 : ¬ l.getD i default ≤ l.getD (i - 1) default := by omega
      simp (disch := first | assumption | omega | (simp only [az]; done)) only [ru, eq_self, if_true, if_false, BEq.rfl, binI, AO.row?, splice, fillL, mmAll, loadV, storeV, zeros, Am.rowAt, Am.part, addOff, Nat.reduceAdd, Nat.reduceMul, Nat.reduceLeDiff, Nat.reduceSub, Nat.reduceLT, Int.reduceEq, Int.reduceLT, Int.reduceLE, Int.reduceGT, Int.reduceGE, Int.reduceAdd, Int.reduceSub, Int.reduceMul, Int.reduceNeg, Int.reduceToNat, reduceCtorEq, reduceIte, hlt, elem_sl intE hv, Int.toNat_natCast, s58, r1, h0, e1, r4]
      exact ih (l.length - (i + 1)) _ _ _ (by omega) ⟨i + 1, by omega, rfl, rfl, rfl, rfl, rfl, rfl, rfl, rfl⟩
    · simp (disch := first | assumption | omega | (simp only [az]; done)) only [ru, eq_self, if_true, if_false, BEq.rfl, binI, AO.row?, splice, fillL, mmAll, loadV, storeV, zeros, Am.rowAt, Am.part, addOff, Nat.reduceAdd, Nat.reduceMul, Nat.reduceLeDiff, Nat.reduceSub, Nat.reduceLT, Int.reduceEq, Int.reduceLT, Int.reduceLE, Int.reduceGT, Int.reduceGE, Int.reduceAdd, Int.reduceSub, Int.reduceMul, Int.reduceNeg, Int.reduceToNat, reduceCtorEq, reduceIte, hlt, elem_sl intE hv, Int.toNat_natCast, s58, r1, h0]
      exact ih (l.length - (i + 1)) _ _ _ (by omega) ⟨i + 1, by omega, rfl, rfl, rfl, rfl, rfl, rfl, rfl, rfl⟩
  simp (disch := first | assumption | omega | (simp only [az]; done)) only [ru, eq_self, if_true, if_false, BEq.rfl, binI, AO.row?, splice, fillL, mmAll, loadV, storeV, zeros, Am.rowAt, Am.part, addOff, Nat.reduceAdd, Nat.reduceMul, Nat.reduceLeDiff, Nat.reduceSub, Nat.reduceLT, Int.reduceEq, Int.reduceLT, Int.reduceLE, Int.reduceGT, Int.reduceGE, Int.reduceAdd, Int.reduceSub, Int.reduceMul, Int.reduceNeg, Int.reduceToNat, reduceCtorEq, reduceIte, hlt]

theorem s54 {l l' : List Int} {v v' : AV} (hv : IsSl 1 (fun n => [I n]) l v) (hv' : IsSl 1 (fun n => [I n]) l' v') (hl : l.length ≤ 1000000) (hl' : l'.length ≤ 1000000) (hp : ∀ i, i < l.length → anyIs l' (l.getD i default) = true) (st : Bool) : Iso E 54 [v, v'] st = some (Bo true) := by
  refine Iso_of (es _ _ _ _) e54 ?_
  simp only [f54]
  simp (disch := first | assumption | omega | (simp only [az]; done)) only [ru, eq_self, if_true, if_false, BEq.rfl, binI, AO.row?, splice, fillL, mmAll, loadV, storeV, zeros, Am.rowAt, Am.part, addOff, Nat.reduceAdd, Nat.reduceMul, Nat.reduceLeDiff, Nat.reduceSub, Nat.reduceLT, Int.reduceEq, Int.reduceLT, Int.reduceLE, Int.reduceGT, Int.reduceGE, Int.reduceAdd, Int.reduceSub, Int.reduceMul, Int.reduceNeg, Int.reduceToNat, reduceCtorEq, reduceIte]
  refine G_loop_ind (fun m ts h mk => ∃ i : Nat, i ≤ l.length ∧ m = l.length - i ∧ ts.length = 19 ∧ ts.getD 0 .undef = v ∧ ts.getD 1 .undef = v' ∧ ts.getD 5 .undef = I i ∧ h = [] ∧ mk = []) ?_ _ _ _ _ ⟨0, Nat.zero_le _, rfl, rfl, rfl, rfl, rfl, rfl, rfl⟩
  rintro m ts h mk ih ⟨i, hi', rfl, hl'', q0, q1, q5, rfl, rfl⟩
  rw [lit_all hl'']
  simp only [lit0, litS, Nat.reduceAdd, q0, q1, q5]
  simp (disch := first | assumption | omega | (simp only [az]; done)) only [ru, eq_self, if_true, if_false, BEq.rfl, binI, AO.row?, splice, fillL, mmAll, loadV, storeV, zeros, Am.rowAt, Am.part, addOff, Nat.reduceAdd, Nat.reduceMul, Nat.reduceLeDiff, Nat.reduceSub, Nat.reduceLT, Int.reduceEq, Int.reduceLT, Int.reduceLE, Int.reduceGT, Int.reduceGE, Int.reduceAdd, Int.reduceSub, Int.reduceMul, Int.reduceNeg, Int.reduceToNat, reduceCtorEq, reduceIte, lenV_sl hv]
  by_cases hlt : (i : Int) < l.length
  case pos =>
    have r1 := hp i (by omega)
    simp (disch := first | assumption | omega | (simp only [az]; done)) only [ru, eq_self, if_true, if_false, BEq.rfl, binI, AO.row?, splice, fillL, mmAll, loadV, storeV, zeros, Am.rowAt, Am.part, addOff, Nat.reduceAdd, Nat.reduceMul, Nat.reduceLeDiff, Nat.reduceSub, Nat.reduceLT, Int.reduceEq, Int.reduceLT, Int.reduceLE, Int.reduceGT, Int.reduceGE, Int.reduceAdd, Int.reduceSub, Int.reduceMul, Int.reduceNeg, Int.reduceToNat, reduceCtorEq, reduceIte, hlt, elem_sl intE hv, Int.toNat_natCast, s56 hv' hl', r1, view_sl hv']
    exact ih (l.length - (i + 1)) _ _ _ (by omega) ⟨i + 1, by omega, rfl, rfl, rfl, rfl, rfl, rfl, rfl⟩
  simp (disch := first | assumption | omega | (simp only [az]; done)) only [ru, eq_self, if_true, if_false, BEq.rfl, binI, AO.row?, splice, fillL, mmAll, loadV, storeV, zeros, Am.rowAt, Am.part, addOff, Nat.reduceAdd, Nat.reduceMul, Nat.reduceLeDiff, Nat.reduceSub, Nat.reduceLT, Int.reduceEq, Int.reduceLT, Int.reduceLE, Int.reduceGT, Int.reduceGE, Int.reduceAdd, Int.reduceSub, Int.reduceMul, Int.reduceNeg, Int.reduceToNat, reduceCtorEq, reduceIte, hlt]

/-! how many truths -/
def man (n : Net) : Nat → Int
  | 0 => n.cur.hi - n.cur.lo + 1
  | i + 1 => man n i * ((n.grips.getD i default).hi - (n.grips.getD i default).lo + 1)
theorem man_bd {n : Net} (h : n.valid = true) : ∀ i, i ≤ n.grips.length → 0 ≤ man n i ∧ man n i ≤ 21 * 10 ^ i
  | 0, _ => by
    have B := netB h
    have c0 := B.c0; have c1 := B.c1; have c2 := B.c2
    simp only [man, Int.pow_zero]; omega
  | i + 1, hi => by
    have ih := man_bd h i (by omega)
    have g := (netB h).g _ (getD_mem (l := n.grips) (i := i) (by omega))
    have := mul_bd (b := (n.grips.getD i default).hi - (n.grips.getD i default).lo + 1) (k := 10) ih.1 ih.2 (by omega) (by omega)
    rw [man, Int.pow_succ, ← Int.mul_assoc]
    exact this
theorem man_le {n : Net} (h : n.valid = true) {i : Nat} (hi : i ≤ n.grips.length) : 0 ≤ man n i ∧ man n i ≤ 21000 := by
  have b := man_bd h i hi
  have := (netB h).lg
  match i, hi, b with
  | 0, _, b => simp at b; omega
  | 1, _, b => simp at b; omega
  | 2, _, b => simp at b; omega
  | 3, _, b => simp at b; omega
  | i + 4, hi, _ => omega

def manyB (n : Net) : Bool := decide (man n n.grips.length > 24) || decide (man n n.grips.length * (n.wind.hi - n.wind.lo + 1) > 100)
def smallN (n : Net) : Prop := n.grips.length ≤ 40 ∧ n.ancs.length ≤ 40 ∧ n.walls.length ≤ 40

theorem s36h {n : Net} {g a w : AV} (H : NetIn n g a w) (hs : ¬ smallN n) (st : Bool) : Iso E 36 [netV n g a w] st = some (Bo true) := by
  refine Iso_of (es _ _ _ _) e36 ?_
  simp only [f36, netV]
  have hb : (decide ((n.grips.length : Int) > 40) || (decide ((n.ancs.length : Int) > 40) || (decide ((n.walls.length : Int) > 40) || false))) = true := by
    unfold smallN at hs
    simp only [Bool.or_false, Bool.or_eq_true, decide_eq_true_eq]; omega
  simp (disch := first | assumption | omega | (simp only [az]; done)) only [ru, eq_self, if_true, if_false, BEq.rfl, binI, AO.row?, splice, fillL, mmAll, loadV, storeV, zeros, Am.rowAt, Am.part, addOff, Nat.reduceAdd, Nat.reduceMul, Nat.reduceLeDiff, Nat.reduceSub, Nat.reduceLT, Int.reduceEq, Int.reduceLT, Int.reduceLE, Int.reduceGT, Int.reduceGE, Int.reduceAdd, Int.reduceSub, Int.reduceMul, Int.reduceNeg, Int.reduceToNat, reduceCtorEq, reduceIte, s15 H.g H.a H.w int0, view_sl H.g, view_sl H.a, view_sl H.w, hb]

theorem s36 {n : Net} {g a w : AV} (H : NetOk n g a w) (st : Bool) : Iso E 36 [netV n g a w] st = some (Bo (n.valid && manyB n)) := by
  have sg := H.sg; have sa := H.sa; have sw := H.sw
  refine Iso_of (es _ _ _ _) e36 ?_
  simp only [f36, netV]
  have h1 : ¬ (n.grips.length : Int) > 40 := by omega
  have h2 : ¬ (n.ancs.length : Int) > 40 := by omega
  have h3 : ¬ (n.walls.length : Int) > 40 := by omega
  simp (disch := first | assumption | omega | (simp only [az]; done)) only [ru, eq_self, if_true, if_false, BEq.rfl, binI, AO.row?, splice, fillL, mmAll, loadV, storeV, zeros, Am.rowAt, Am.part, addOff, Nat.reduceAdd, Nat.reduceMul, Nat.reduceLeDiff, Nat.reduceSub, Nat.reduceLT, Int.reduceEq, Int.reduceLT, Int.reduceLE, Int.reduceGT, Int.reduceGE, Int.reduceAdd, Int.reduceSub, Int.reduceMul, Int.reduceNeg, Int.reduceToNat, reduceCtorEq, reduceIte, s15 H.g H.a H.w int0, lenV_sl H.g, lenV_sl H.a, lenV_sl H.w, elem_sl Spn.el H.g, elem_sl Anc.el H.a, elem_sl Wal.el H.w, view_sl H.g, view_sl H.a, view_sl H.w, scalar_sl H.g, scalar_sl H.a, scalar_sl H.w, cells_sl H.g, cells_sl H.a, cells_sl H.w, pure_sl H.g, pure_sl H.a, pure_sl H.w, Spn.e, Anc.e, Wal.e, Spn.eta, Anc.eta, Wal.eta, Int.toNat_natCast, h1, h2, h3, Bool.or_self, s19 H]
  cases hv : n.valid
  · simp (disch := first | assumption | omega | (simp only [az]; done)) only [ru, eq_self, if_true, if_false, BEq.rfl, binI, AO.row?, splice, fillL, mmAll, loadV, storeV, zeros, Am.rowAt, Am.part, addOff, Nat.reduceAdd, Nat.reduceMul, Nat.reduceLeDiff, Nat.reduceSub, Nat.reduceLT, Int.reduceEq, Int.reduceLT, Int.reduceLE, Int.reduceGT, Int.reduceGE, Int.reduceAdd, Int.reduceSub, Int.reduceMul, Int.reduceNeg, Int.reduceToNat, reduceCtorEq, reduceIte]
  have B := netB hv
  have c0 := B.c0; have c1 := B.c1; have c2 := B.c2; have w0 := B.w0; have w1 := B.w1; have w2 := B.w2; have lg := B.lg
  simp (disch := first | assumption | omega | (simp only [az]; done)) only [ru, eq_self, if_true, if_false, BEq.rfl, binI, AO.row?, splice, fillL, mmAll, loadV, storeV, zeros, Am.rowAt, Am.part, addOff, Nat.reduceAdd, Nat.reduceMul, Nat.reduceLeDiff, Nat.reduceSub, Nat.reduceLT, Int.reduceEq, Int.reduceLT, Int.reduceLE, Int.reduceGT, Int.reduceGE, Int.reduceAdd, Int.reduceSub, Int.reduceMul, Int.reduceNeg, Int.reduceToNat, reduceCtorEq, reduceIte, lenV_sl H.g, lenV_sl H.a, lenV_sl H.w, elem_sl Spn.el H.g, elem_sl Anc.el H.a, elem_sl Wal.el H.w, view_sl H.g, view_sl H.a, view_sl H.w, scalar_sl H.g, scalar_sl H.a, scalar_sl H.w, cells_sl H.g, cells_sl H.a, cells_sl H.w, pure_sl H.g, pure_sl H.a, pure_sl H.w, Spn.e, Anc.e, Wal.e, Spn.eta, Anc.eta, Wal.eta, Int.toNat_natCast]
  refine G_loop_ind (fun m ts h mk => ∃ i : Nat, i ≤ n.grips.length ∧ m = n.grips.length - i ∧ ts.length = 57 ∧ ts.getD 1 .undef = .ptr 0 0 ∧ ts.getD 3 .undef = I (man n i) ∧ ts.getD 4 .undef = I i ∧ h = [.cells [I n.wind.lo, I n.wind.hi, I n.cur.lo, I n.cur.hi, g, a, w] false] ∧ mk = []) ?_ _ _ _ _ ⟨0, Nat.zero_le _, rfl, rfl, rfl, rfl, rfl, rfl, rfl⟩
  rintro m ts h mk ih ⟨i, hi, rfl, hl, q1, q3, q4, rfl, rfl⟩
  rw [lit_all hl]
  simp only [lit0, litS, Nat.reduceAdd, q1, q3, q4]
  simp (disch := first | assumption | omega | (simp only [az]; done)) only [ru, eq_self, if_true, if_false, BEq.rfl, binI, AO.row?, splice, fillL, mmAll, loadV, storeV, zeros, Am.rowAt, Am.part, addOff, Nat.reduceAdd, Nat.reduceMul, Nat.reduceLeDiff, Nat.reduceSub, Nat.reduceLT, Int.reduceEq, Int.reduceLT, Int.reduceLE, Int.reduceGT, Int.reduceGE, Int.reduceAdd, Int.reduceSub, Int.reduceMul, Int.reduceNeg, Int.reduceToNat, reduceCtorEq, reduceIte, lenV_sl H.g, lenV_sl H.a, lenV_sl H.w, elem_sl Spn.el H.g, elem_sl Anc.el H.a, elem_sl Wal.el H.w, view_sl H.g, view_sl H.a, view_sl H.w, scalar_sl H.g, scalar_sl H.a, scalar_sl H.w, cells_sl H.g, cells_sl H.a, cells_sl H.w, pure_sl H.g, pure_sl H.a, pure_sl H.w, Spn.e, Anc.e, Wal.e, Spn.eta, Anc.eta, Wal.eta, Int.toNat_natCast]
  by_cases hlt : (i : Int) < n.grips.length
  case pos =>
    have G := B.g _ (getD_mem (l := n.grips) (i := i) (by omega))
    have m1 := man_le hv (i := i + 1) (by omega)
    simp only [man] at m1
    simp (disch := first | assumption | omega | (simp only [az]; done)) only [ru, eq_self, if_true, if_false, BEq.rfl, binI, AO.row?, splice, fillL, mmAll, loadV, storeV, zeros, Am.rowAt, Am.part, addOff, Nat.reduceAdd, Nat.reduceMul, Nat.reduceLeDiff, Nat.reduceSub, Nat.reduceLT, Int.reduceEq, Int.reduceLT, Int.reduceLE, Int.reduceGT, Int.reduceGE, Int.reduceAdd, Int.reduceSub, Int.reduceMul, Int.reduceNeg, Int.reduceToNat, reduceCtorEq, reduceIte, hlt, lenV_sl H.g, lenV_sl H.a, lenV_sl H.w, elem_sl Spn.el H.g, elem_sl Anc.el H.a, elem_sl Wal.el H.w, view_sl H.g, view_sl H.a, view_sl H.w, scalar_sl H.g, scalar_sl H.a, scalar_sl H.w, cells_sl H.g, cells_sl H.a, cells_sl H.w, pure_sl H.g, pure_sl H.a, pure_sl H.w, Spn.e, Anc.e, Wal.e, Spn.eta, Anc.eta, Wal.eta, Int.toNat_natCast]
    exact ih (n.grips.length - (i + 1)) _ _ _ (by omega) ⟨i + 1, by omega, rfl, rfl, rfl, rfl, rfl, rfl, rfl⟩
  obtain rfl : i = n.grips.length := by omega
  have m0 := man_le hv (i := n.grips.length) (Nat.le_refl _)
  have m1 := mul_bd (b := n.wind.hi - n.wind.lo + 1) (k := 21) m0.1 m0.2 (by omega) (by omega)
  by_cases hm : man n n.grips.length > 24
  · simp (disch := first | assumption | omega | (simp only [az]; done)) only [ru, eq_self, if_true, if_false, BEq.rfl, binI, AO.row?, splice, fillL, mmAll, loadV, storeV, zeros, Am.rowAt, Am.part, addOff, Nat.reduceAdd, Nat.reduceMul, Nat.reduceLeDiff, Nat.reduceSub, Nat.reduceLT, Int.reduceEq, Int.reduceLT, Int.reduceLE, Int.reduceGT, Int.reduceGE, Int.reduceAdd, Int.reduceSub, Int.reduceMul, Int.reduceNeg, Int.reduceToNat, reduceCtorEq, reduceIte, hlt, lenV_sl H.g, lenV_sl H.a, lenV_sl H.w, elem_sl Spn.el H.g, elem_sl Anc.el H.a, elem_sl Wal.el H.w, view_sl H.g, view_sl H.a, view_sl H.w, scalar_sl H.g, scalar_sl H.a, scalar_sl H.w, cells_sl H.g, cells_sl H.a, cells_sl H.w, pure_sl H.g, pure_sl H.a, pure_sl H.w, Spn.e, Anc.e, Wal.e, Spn.eta, Anc.eta, Wal.eta, Int.toNat_natCast, hm]
    simp only [manyB, hm, decide_true, Bool.true_or, Bool.true_and]
  · simp (disch := first | assumption | omega | (simp only [az]; done)) only [ru, eq_self, if_true, if_false, BEq.rfl, binI, AO.row?, splice, fillL, mmAll, loadV, storeV, zeros, Am.rowAt, Am.part, addOff, Nat.reduceAdd, Nat.reduceMul, Nat.reduceLeDiff, Nat.reduceSub, Nat.reduceLT, Int.reduceEq, Int.reduceLT, Int.reduceLE, Int.reduceGT, Int.reduceGE, Int.reduceAdd, Int.reduceSub, Int.reduceMul, Int.reduceNeg, Int.reduceToNat, reduceCtorEq, reduceIte, hlt, lenV_sl H.g, lenV_sl H.a, lenV_sl H.w, elem_sl Spn.el H.g, elem_sl Anc.el H.a, elem_sl Wal.el H.w, view_sl H.g, view_sl H.a, view_sl H.w, scalar_sl H.g, scalar_sl H.a, scalar_sl H.w, cells_sl H.g, cells_sl H.a, cells_sl H.w, pure_sl H.g, pure_sl H.a, pure_sl H.w, Spn.e, Anc.e, Wal.e, Spn.eta, Anc.eta, Wal.eta, Int.toNat_natCast, hm]
    simp only [manyB, hm, decide_false, Bool.false_or, Bool.true_and]

def rdy (n : Net) : Bool := !(n.valid && manyB n) && n.valid
theorem s62h {n : Net} {g a w : AV} (H : NetIn n g a w) (hs : ¬ smallN n) (st : Bool) : Iso E 62 [netV n g a w] st = some (Bo false) := by
  refine Iso_of (es _ _ _ _) e62 ?_
  simp only [f62, netV]
  simp (disch := first | assumption | omega | (simp only [az]; done)) only [ru, eq_self, if_true, if_false, BEq.rfl, binI, AO.row?, splice, fillL, mmAll, loadV, storeV, zeros, Am.rowAt, Am.part, addOff, Nat.reduceAdd, Nat.reduceMul, Nat.reduceLeDiff, Nat.reduceSub, Nat.reduceLT, Int.reduceEq, Int.reduceLT, Int.reduceLE, Int.reduceGT, Int.reduceGE, Int.reduceAdd, Int.reduceSub, Int.reduceMul, Int.reduceNeg, Int.reduceToNat, reduceCtorEq, reduceIte, s36h H hs, view_sl H.g, view_sl H.a, view_sl H.w]
theorem s62 {n : Net} {g a w : AV} (H : NetOk n g a w) (st : Bool) : Iso E 62 [netV n g a w] st = some (Bo (rdy n)) := by
  refine Iso_of (es _ _ _ _) e62 ?_
  simp only [f62, netV]
  cases hv : n.valid <;> cases hm : manyB n
  all_goals
    simp (disch := first | assumption | omega | (simp only [az]; done)) only [ru, eq_self, if_true, if_false, BEq.rfl, binI, AO.row?, splice, fillL, mmAll, loadV, storeV, zeros, Am.rowAt, Am.part, addOff, Nat.reduceAdd, Nat.reduceMul, Nat.reduceLeDiff, Nat.reduceSub, Nat.reduceLT, Int.reduceEq, Int.reduceLT, Int.reduceLE, Int.reduceGT, Int.reduceGE, Int.reduceAdd, Int.reduceSub, Int.reduceMul, Int.reduceNeg, Int.reduceToNat, reduceCtorEq, reduceIte, s36 H, s19 H, lenV_sl H.g, lenV_sl H.a, lenV_sl H.w, elem_sl Spn.el H.g, elem_sl Anc.el H.a, elem_sl Wal.el H.w, view_sl H.g, view_sl H.a, view_sl H.w, scalar_sl H.g, scalar_sl H.a, scalar_sl H.w, cells_sl H.g, cells_sl H.a, cells_sl H.w, pure_sl H.g, pure_sl H.a, pure_sl H.w, Spn.e, Anc.e, Wal.e, Spn.eta, Anc.eta, Wal.eta, Int.toNat_natCast, hv, hm, Bool.and_self, Bool.true_and, Bool.false_and]
    try simp only [rdy, hv, hm, Bool.and_self, Bool.true_and, Bool.false_and, Bool.not_true, Bool.not_false]

def gvn (n : Net) (t : Tru) : Bool := rdy n && (decide (t.grips.length ≤ 40) && truthOk n t)
theorem s51h {n : Net} {g a w : AV} (H : NetIn n g a w) (hs : ¬ smallN n) {t : Tru} {v : AV} (V : TruIn t v) (st : Bool) : Iso E 51 [netV n g a w, .agg [I t.wind, I t.cur, v]] st = some (Bo false) := by
  refine Iso_of (es _ _ _ _) e51 ?_
  simp only [f51, netV]
  simp (disch := first | assumption | omega | (simp only [az]; done)) only [ru, eq_self, if_true, if_false, BEq.rfl, binI, AO.row?, splice, fillL, mmAll, loadV, storeV, zeros, Am.rowAt, Am.part, addOff, Nat.reduceAdd, Nat.reduceMul, Nat.reduceLeDiff, Nat.reduceSub, Nat.reduceLT, Int.reduceEq, Int.reduceLT, Int.reduceLE, Int.reduceGT, Int.reduceGE, Int.reduceAdd, Int.reduceSub, Int.reduceMul, Int.reduceNeg, Int.reduceToNat, reduceCtorEq, reduceIte, s62h H hs, view_sl H.g, view_sl H.a, view_sl H.w]
theorem s51 {n : Net} {g a w : AV} (H : NetOk n g a w) {t : Tru} {v : AV} (V : TruIn t v) (st : Bool) : Iso E 51 [netV n g a w, .agg [I t.wind, I t.cur, v]] st = some (Bo (gvn n t)) := by
  refine Iso_of (es _ _ _ _) e51 ?_
  simp only [f51, netV]
  cases hr : rdy n
  · simp (disch := first | assumption | omega | (simp only [az]; done)) only [ru, eq_self, if_true, if_false, BEq.rfl, binI, AO.row?, splice, fillL, mmAll, loadV, storeV, zeros, Am.rowAt, Am.part, addOff, Nat.reduceAdd, Nat.reduceMul, Nat.reduceLeDiff, Nat.reduceSub, Nat.reduceLT, Int.reduceEq, Int.reduceLT, Int.reduceLE, Int.reduceGT, Int.reduceGE, Int.reduceAdd, Int.reduceSub, Int.reduceMul, Int.reduceNeg, Int.reduceToNat, reduceCtorEq, reduceIte, s62 H, lenV_sl H.g, lenV_sl H.a, lenV_sl H.w, elem_sl Spn.el H.g, elem_sl Anc.el H.a, elem_sl Wal.el H.w, view_sl H.g, view_sl H.a, view_sl H.w, scalar_sl H.g, scalar_sl H.a, scalar_sl H.w, cells_sl H.g, cells_sl H.a, cells_sl H.w, pure_sl H.g, pure_sl H.a, pure_sl H.w, Spn.e, Anc.e, Wal.e, Spn.eta, Anc.eta, Wal.eta, Int.toNat_natCast, hr]
    simp only [gvn, hr, Bool.false_and]
  by_cases hl : t.grips.length ≤ 40
  · have V' : TruOk t v := ⟨V.s, hl⟩
    have hl' : (t.grips.length : Int) ≤ 40 := by omega
    simp (disch := first | assumption | omega | (simp only [az]; done)) only [ru, eq_self, if_true, if_false, BEq.rfl, binI, AO.row?, splice, fillL, mmAll, loadV, storeV, zeros, Am.rowAt, Am.part, addOff, Nat.reduceAdd, Nat.reduceMul, Nat.reduceLeDiff, Nat.reduceSub, Nat.reduceLT, Int.reduceEq, Int.reduceLT, Int.reduceLE, Int.reduceGT, Int.reduceGE, Int.reduceAdd, Int.reduceSub, Int.reduceMul, Int.reduceNeg, Int.reduceToNat, reduceCtorEq, reduceIte, s62 H, lenV_sl H.g, lenV_sl H.a, lenV_sl H.w, elem_sl Spn.el H.g, elem_sl Anc.el H.a, elem_sl Wal.el H.w, view_sl H.g, view_sl H.a, view_sl H.w, scalar_sl H.g, scalar_sl H.a, scalar_sl H.w, cells_sl H.g, cells_sl H.a, cells_sl H.w, pure_sl H.g, pure_sl H.a, pure_sl H.w, Spn.e, Anc.e, Wal.e, Spn.eta, Anc.eta, Wal.eta, Int.toNat_natCast, lenV_sl V.s, elem_sl intE V.s, view_sl V.s, scalar_sl V.s, cells_sl V.s, pure_sl V.s, hr, hl', s102 H V']
    simp only [gvn, hr, hl, decide_true, Bool.true_and]
  · have hl' : ¬ (t.grips.length : Int) ≤ 40 := by omega
    simp (disch := first | assumption | omega | (simp only [az]; done)) only [ru, eq_self, if_true, if_false, BEq.rfl, binI, AO.row?, splice, fillL, mmAll, loadV, storeV, zeros, Am.rowAt, Am.part, addOff, Nat.reduceAdd, Nat.reduceMul, Nat.reduceLeDiff, Nat.reduceSub, Nat.reduceLT, Int.reduceEq, Int.reduceLT, Int.reduceLE, Int.reduceGT, Int.reduceGE, Int.reduceAdd, Int.reduceSub, Int.reduceMul, Int.reduceNeg, Int.reduceToNat, reduceCtorEq, reduceIte, s62 H, lenV_sl H.g, lenV_sl H.a, lenV_sl H.w, elem_sl Spn.el H.g, elem_sl Anc.el H.a, elem_sl Wal.el H.w, view_sl H.g, view_sl H.a, view_sl H.w, scalar_sl H.g, scalar_sl H.a, scalar_sl H.w, cells_sl H.g, cells_sl H.a, cells_sl H.w, pure_sl H.g, pure_sl H.a, pure_sl H.w, Spn.e, Anc.e, Wal.e, Spn.eta, Anc.eta, Wal.eta, Int.toNat_natCast, lenV_sl V.s, elem_sl intE V.s, view_sl V.s, scalar_sl V.s, cells_sl V.s, pure_sl V.s, hr, hl']
    simp only [gvn, hr, hl, decide_false, Bool.true_and, Bool.false_and]
theorem gvn_good {n : Net} {t : Tru} (h : gvn n t = true) : Good n t := by
  simp only [gvn, rdy, Bool.and_eq_true] at h
  exact good_of h.1.2 h.2.2
theorem gvn_l {n : Net} {t : Tru} (h : gvn n t = true) : t.grips.length ≤ 40 := by
  simp only [gvn, Bool.and_eq_true, decide_eq_true_eq] at h
  exact h.2.1
theorem good_e {n : Net} {t : Tru} (G : Good n t) : givenE n t = 0 := by simp [givenE, G.v, G.tr]

theorem anyIs_iff {l : List Int} {x : Int} : anyIs l x = true ↔ x ∈ l := by simp [anyIs]
theorem lst_rises (n : Net) (D : Nat → Bool) : Rises (lst n D) 0 ((n.ancs.length : Int) - 1) := by
  intro i hi
  have hp : List.Pairwise (fun (x y : Int) => x < y) (lst n D) := by
    unfold lst
    rw [List.pairwise_map]
    exact (List.Pairwise.filter D List.pairwise_lt_range).imp (fun h => by omega)
  rw [List.pairwise_iff_getElem] at hp
  have hm : (lst n D).getD i default ∈ lst n D := getD_mem hi
  refine ⟨?_, fun h0 => ?_⟩
  · unfold lst at hm
    simp only [List.mem_map, List.mem_filter, List.mem_range] at hm
    obtain ⟨k, ⟨hk, _⟩, e⟩ := hm
    unfold lst
    rw [← e, inR_iff]; omega
  · have := hp (i - 1) i (by omega) hi (by omega)
    simp only [List.getD_eq_getElem?_getD, List.getElem?_eq_getElem hi, List.getElem?_eq_getElem (show i - 1 < (lst n D).length by omega), Option.getD_some]
    exact this

theorem s52 {n : Net} {g a w : AV} (H : NetOk n g a w) {t : Tru} {v : AV} (V : TruOk t v) (G : Good n t) : Iso E 52 [netV n g a w, .agg [I t.wind, I t.cur, v]] false = some (.tup [resL (lst n (lfp n t none6)), Bo true]) := by
  have sa := H.sa
  refine Iso_of (es _ _ _ _) e52 ?_
  simp only [f52, netV]
  have a3 := fun h => r28 H V.c (vw_sl H.g h) (vw_sl H.a h) (vw_sl H.w h)
  simp only [ansL, errL, good_e G, if_true] at a3
  have L := lst_le (n := n) (D := lfp n t none6)
  simp (disch := first | assumption | omega | (simp only [az]; done)) only [ru, eq_self, if_true, if_false, BEq.rfl, binI, AO.row?, splice, fillL, mmAll, loadV, storeV, zeros, Am.rowAt, Am.part, addOff, Nat.reduceAdd, Nat.reduceMul, Nat.reduceLeDiff, Nat.reduceSub, Nat.reduceLT, Int.reduceEq, Int.reduceLT, Int.reduceLE, Int.reduceGT, Int.reduceGE, Int.reduceAdd, Int.reduceSub, Int.reduceMul, Int.reduceNeg, Int.reduceToNat, reduceCtorEq, reduceIte, lenV_sl H.g, lenV_sl H.a, lenV_sl H.w, elem_sl Spn.el H.g, elem_sl Anc.el H.a, elem_sl Wal.el H.w, view_sl H.g, view_sl H.a, view_sl H.w, scalar_sl H.g, scalar_sl H.a, scalar_sl H.w, cells_sl H.g, cells_sl H.a, cells_sl H.w, pure_sl H.g, pure_sl H.a, pure_sl H.w, Spn.e, Anc.e, Wal.e, Spn.eta, Anc.eta, Wal.eta, Int.toNat_natCast, lenV_sl V.s, elem_sl intE V.s, view_sl V.s, scalar_sl V.s, cells_sl V.s, pure_sl V.s, s25 V, a3, slV_sc, slV_ce, slV_vi, slV_pu, s53 (resL_is (lst n (lfp n t none6))) (by omega) (lst_rises n _), view_sl (resL_is (lst n (lfp n t none6)))]
theorem r52 {n : Net} {g a w g' a' w' : AV} (H : NetOk n g' a' w') {t : Tru} {v : AV} (V : TruOk t v) (G : Good n t) {h : List AO} (hg : Vw h g g') (ha : Vw h a a') (hw : Vw h w w') (la : lenV a = some (I n.ancs.length)) :
    Ro E 52 [netV n g a w, .agg [I t.wind, I t.cur, v]] h = some (.tup [resL (lst n (lfp n t none6)), Bo true]) := by
  have sa := H.sa
  refine Ro_of (es _ _ _ _) e52 ?_
  simp only [f52, netV]
  have a3 := fun x y => r28 H V.c (h := h ++ [x] ++ [y]) (by rw [List.append_assoc]; exact hg.more _) (by rw [List.append_assoc]; exact ha.more _) (by rw [List.append_assoc]; exact hw.more _)
  simp only [ansL, errL, good_e G, if_true] at a3
  have L := lst_le (n := n) (D := lfp n t none6)
  simp (disch := first | assumption | omega | (simp only [az]; done)) only [ru, eq_self, if_true, if_false, BEq.rfl, binI, AO.row?, splice, fillL, mmAll, loadV, storeV, zeros, Am.rowAt, Am.part, addOff, Nat.reduceAdd, Nat.reduceMul, Nat.reduceLeDiff, Nat.reduceSub, Nat.reduceLT, Int.reduceEq, Int.reduceLT, Int.reduceLE, Int.reduceGT, Int.reduceGE, Int.reduceAdd, Int.reduceSub, Int.reduceMul, Int.reduceNeg, Int.reduceToNat, reduceCtorEq, reduceIte, la, lenV_sl V.s, elem_sl intE V.s, view_sl V.s, scalar_sl V.s, cells_sl V.s, pure_sl V.s, s25 V, a3, slV_sc, slV_ce, slV_vi, slV_pu, s53 (resL_is (lst n (lfp n t none6))) (by omega) (lst_rises n _), view_sl (resL_is (lst n (lfp n t none6)))]
  simp only [unT, unC, unN, unI, unB, resL_un, Bool.and_self, and_self]
end Go.Proofs.Ytpflneddfhifkaa.S
