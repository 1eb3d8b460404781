/-
The least wind in which something drags: Wind and Storm.
-/
import Derived.Test.YtpflneddfhifkaaSm
namespace Go.Proofs.Ytpflneddfhifkaa.S
open Go Go.Am Go.Proofs.Ytpflneddfhifkaa.T
set_option maxRecDepth 100000
set_option linter.unusedSimpArgs false
set_option linter.unusedVariables false



/-- a truth in another wind -/
abbrev inW (t : Tru) (x : Int) : Tru := ⟨x, t.cur, t.grips⟩
theorem fair_w {n : Net} {t : Tru} (G : Fair n t) {x : Int} (h0 : 0 ≤ x) (h1 : x ≤ 20) : Fair n (inW t x) := ⟨G.v, ⟨h0, h1⟩, G.b.2.1, G.b.2.2.1, G.b.2.2.2⟩
def lwGo (n : Net) (t : Tru) : Nat → Nat → Nat
  | 0, i => i
  | f + 1, i => if still n (inW t i) then lwGo n t f (i + 1) else i
/-- the least wind in which something drags, or 21 -/
def lw (n : Net) (t : Tru) : Nat := lwGo n t 21 0
theorem lwGo_le {n : Net} {t : Tru} : ∀ {f i : Nat}, lwGo n t f i ≤ i + f
  | 0, i => Nat.le_refl _
  | f + 1, i => by
    rw [lwGo]; split
    · have := lwGo_le (n := n) (t := t) (f := f) (i := i + 1); omega
    · omega
theorem lwGo_still {n : Net} {t : Tru} : ∀ {f i j : Nat}, i ≤ j → j < lwGo n t f i → still n (inW t j) = true
  | 0, i, j, h, h2 => by rw [lwGo] at h2; omega
  | f + 1, i, j, h, h2 => by
    rw [lwGo] at h2
    split at h2
    · rename_i hs
      by_cases e : i = j
      · subst e; exact hs
      · exact lwGo_still (f := f) (i := i + 1) (by omega) h2
    · omega
theorem lwGo_drags {n : Net} {t : Tru} : ∀ {f i : Nat}, lwGo n t f i < i + f → still n (inW t (lwGo n t f i)) = false
  | 0, i, h => by rw [lwGo] at h; omega
  | f + 1, i, h => by
    by_cases hs : still n (inW t i) = true
    · have e : lwGo n t (f + 1) i = lwGo n t f (i + 1) := by rw [lwGo, if_pos hs]
      rw [e] at h ⊢
      exact lwGo_drags (by omega)
    · have e : lwGo n t (f + 1) i = i := by rw [lwGo, if_neg hs]
      rw [e]
      simpa using hs
theorem lw_le {n : Net} {t : Tru} : lw n t ≤ 21 := by have := lwGo_le (n := n) (t := t) (f := 21) (i := 0); unfold lw; omega
theorem lw_still {n : Net} {t : Tru} {j : Nat} (h : j < lw n t) : still n (inW t j) = true := lwGo_still (Nat.zero_le _) h
theorem lw_drags {n : Net} {t : Tru} (h : lw n t ≤ 20) : still n (inW t (lw n t)) = false := lwGo_drags (f := 21) (i := 0) (by unfold lw at h; omega)

theorem s96 {n : Net} {g a w : AV} (H : NetOk n g a w) {t : Tru} {v : AV} (V : TruOk t v) (G : Fair n t) (st : Bool) : Iso E 96 [netT n g a w t v] st = some (I (lw n t)) := by
  refine Iso_of (es _ _ _ _) e96 ?_
  simp only [f96, netT]
  simp (disch := first | assumption | omega | (simp only [az]; done)) only [ru, eq_self, if_true, if_false, BEq.rfl, binI, AO.row?, splice, fillL, mmAll, loadV, storeV, zeros, Am.rowAt, Am.part, addOff, Nat.reduceAdd, Nat.reduceMul, Nat.reduceLeDiff, Nat.reduceSub, Nat.reduceLT, Int.reduceEq, Int.reduceLT, Int.reduceLE, Int.reduceGT, Int.reduceGE, Int.reduceAdd, Int.reduceSub, Int.reduceMul, Int.reduceNeg, Int.reduceToNat, reduceCtorEq, reduceIte, lenV_sl H.g, lenV_sl H.a, lenV_sl H.w, elem_sl Spn.el H.g, elem_sl Anc.el H.a, elem_sl Wal.el H.w, view_sl H.g, view_sl H.a, view_sl H.w, scalar_sl H.g, scalar_sl H.a, scalar_sl H.w, cells_sl H.g, cells_sl H.a, cells_sl H.w, pure_sl H.g, pure_sl H.a, pure_sl H.w, Spn.e, Anc.e, Wal.e, Spn.eta, Anc.eta, Wal.eta, Int.toNat_natCast, lenV_sl V.s, elem_sl intE V.s, view_sl V.s, scalar_sl V.s, cells_sl V.s, pure_sl V.s]
  refine G_loop_ind (fun m ts h mk => ∃ (i : Nat) (x : Int), i ≤ 21 ∧ m = 21 - i ∧ lwGo n t (21 - i) i = lw n t ∧ ts.length = 15 ∧ ts.getD 1 .undef = .ptr 0 0 ∧ ts.getD 4 .undef = I i ∧
    h = [.cells [I n.wind.lo, I n.wind.hi, I n.cur.lo, I n.cur.hi, g, a, w, I x, I t.cur, v] false] ∧ mk = []) ?_ _ _ _ _ ⟨0, t.wind, Nat.zero_le _, rfl, rfl, rfl, rfl, rfl, rfl, rfl⟩
  rintro m ts h mk ih ⟨i, x, hi, rfl, hg, hl, q1, q4, rfl, rfl⟩
  rw [lit_all hl]
  simp only [lit0, litS, Nat.reduceAdd, q1, q4]
  simp (disch := first | assumption | omega | (simp only [az]; done)) only [ru, eq_self, if_true, if_false, BEq.rfl, binI, AO.row?, splice, fillL, mmAll, loadV, storeV, zeros, Am.rowAt, Am.part, addOff, Nat.reduceAdd, Nat.reduceMul, Nat.reduceLeDiff, Nat.reduceSub, Nat.reduceLT, Int.reduceEq, Int.reduceLT, Int.reduceLE, Int.reduceGT, Int.reduceGE, Int.reduceAdd, Int.reduceSub, Int.reduceMul, Int.reduceNeg, Int.reduceToNat, reduceCtorEq, reduceIte]
  by_cases hlt : (i : Int) < 21
  case pos =>
    have q := fun st => s92 H (t := inW t i) (v := v) ⟨V.s, V.l⟩ (fair_w G (by omega) (by omega)) st
    have e : 21 - i = (21 - (i + 1)) + 1 := by omega
    rw [e, lwGo] at hg
    obtain ⟨b, hb⟩ : ∃ b, b = still n (inW t i) := ⟨_, rfl⟩
    rw [← hb] at hg
    simp only [← hb] at q
    simp only [netT, inW] at q
    cases b
    · simp only [Bool.false_eq_true, if_false] at hg
      simp (disch := first | assumption | omega | (simp only [az]; done)) only [ru, eq_self, if_true, if_false, BEq.rfl, binI, AO.row?, splice, fillL, mmAll, loadV, storeV, zeros, Am.rowAt, Am.part, addOff, Nat.reduceAdd, Nat.reduceMul, Nat.reduceLeDiff, Nat.reduceSub, Nat.reduceLT, Int.reduceEq, Int.reduceLT, Int.reduceLE, Int.reduceGT, Int.reduceGE, Int.reduceAdd, Int.reduceSub, Int.reduceMul, Int.reduceNeg, Int.reduceToNat, reduceCtorEq, reduceIte, lenV_sl H.g, lenV_sl H.a, lenV_sl H.w, elem_sl Spn.el H.g, elem_sl Anc.el H.a, elem_sl Wal.el H.w, view_sl H.g, view_sl H.a, view_sl H.w, scalar_sl H.g, scalar_sl H.a, scalar_sl H.w, cells_sl H.g, cells_sl H.a, cells_sl H.w, pure_sl H.g, pure_sl H.a, pure_sl H.w, Spn.e, Anc.e, Wal.e, Spn.eta, Anc.eta, Wal.eta, Int.toNat_natCast, lenV_sl V.s, elem_sl intE V.s, view_sl V.s, scalar_sl V.s, cells_sl V.s, pure_sl V.s, hlt, q]
      rw [hg]
    · simp only [if_true] at hg
      simp (disch := first | assumption | omega | (simp only [az]; done)) only [ru, eq_self, if_true, if_false, BEq.rfl, binI, AO.row?, splice, fillL, mmAll, loadV, storeV, zeros, Am.rowAt, Am.part, addOff, Nat.reduceAdd, Nat.reduceMul, Nat.reduceLeDiff, Nat.reduceSub, Nat.reduceLT, Int.reduceEq, Int.reduceLT, Int.reduceLE, Int.reduceGT, Int.reduceGE, Int.reduceAdd, Int.reduceSub, Int.reduceMul, Int.reduceNeg, Int.reduceToNat, reduceCtorEq, reduceIte, lenV_sl H.g, lenV_sl H.a, lenV_sl H.w, elem_sl Spn.el H.g, elem_sl Anc.el H.a, elem_sl Wal.el H.w, view_sl H.g, view_sl H.a, view_sl H.w, scalar_sl H.g, scalar_sl H.a, scalar_sl H.w, cells_sl H.g, cells_sl H.a, cells_sl H.w, pure_sl H.g, pure_sl H.a, pure_sl H.w, Spn.e, Anc.e, Wal.e, Spn.eta, Anc.eta, Wal.eta, Int.toNat_natCast, lenV_sl V.s, elem_sl intE V.s, view_sl V.s, scalar_sl V.s, cells_sl V.s, pure_sl V.s, hlt, q]
      exact ih (21 - (i + 1)) _ _ _ (by omega) ⟨i + 1, (i : Int), by omega, rfl, hg, rfl, rfl, rfl, rfl, rfl⟩
  obtain rfl : i = 21 := by omega
  have hg' : lw n t = 21 := by rw [← hg]; rfl
  simp (disch := first | assumption | omega | (simp only [az]; done)) only [ru, eq_self, if_true, if_false, BEq.rfl, binI, AO.row?, splice, fillL, mmAll, loadV, storeV, zeros, Am.rowAt, Am.part, addOff, Nat.reduceAdd, Nat.reduceMul, Nat.reduceLeDiff, Nat.reduceSub, Nat.reduceLT, Int.reduceEq, Int.reduceLT, Int.reduceLE, Int.reduceGT, Int.reduceGE, Int.reduceAdd, Int.reduceSub, Int.reduceMul, Int.reduceNeg, Int.reduceToNat, reduceCtorEq, reduceIte, hlt, hg']

def wv (k : Nat) : Int := if (k : Int) > 20 then 0 else k
def we (k : Nat) : Int := if (k : Int) > 20 then 3 else 0
theorem s95 (k : Nat) (st : Bool) : Iso E 95 [I k] st = some (.tup [I (wv k), I (we k)]) := by
  refine Iso_of (es _ _ _ _) e95 ?_
  simp only [f95, wv, we]
  by_cases h : (k : Int) > 20
  · simp (disch := first | assumption | omega | (simp only [az]; done)) only [ru, eq_self, if_true, if_false, BEq.rfl, binI, AO.row?, splice, fillL, mmAll, loadV, storeV, zeros, Am.rowAt, Am.part, addOff, Nat.reduceAdd, Nat.reduceMul, Nat.reduceLeDiff, Nat.reduceSub, Nat.reduceLT, Int.reduceEq, Int.reduceLT, Int.reduceLE, Int.reduceGT, Int.reduceGE, Int.reduceAdd, Int.reduceSub, Int.reduceMul, Int.reduceNeg, Int.reduceToNat, reduceCtorEq, reduceIte, h]
  · simp (disch := first | assumption | omega | (simp only [az]; done)) only [ru, eq_self, if_true, if_false, BEq.rfl, binI, AO.row?, splice, fillL, mmAll, loadV, storeV, zeros, Am.rowAt, Am.part, addOff, Nat.reduceAdd, Nat.reduceMul, Nat.reduceLeDiff, Nat.reduceSub, Nat.reduceLT, Int.reduceEq, Int.reduceLT, Int.reduceLE, Int.reduceGT, Int.reduceGE, Int.reduceAdd, Int.reduceSub, Int.reduceMul, Int.reduceNeg, Int.reduceToNat, reduceCtorEq, reduceIte, h]
theorem s43 {n : Net} {g a w : AV} (H : NetOk n g a w) (hv : n.valid = true) (st : Bool) : Iso E 43 [netV n g a w] st = some (.tup [I (wv (lw n (rough n))), I (we (lw n (rough n)))]) := by
  have lg := (netB hv).lg
  have q1 := fun st => s96 H (rough_ok H) (rough_good hv).toFair st
  refine Iso_of (es _ _ _ _) e43 ?_
  simp only [f43, netV]
  simp only [netT] at q1
  simp (disch := first | assumption | omega | (simp only [az]; done)) only [ru, eq_self, if_true, if_false, BEq.rfl, binI, AO.row?, splice, fillL, mmAll, loadV, storeV, zeros, Am.rowAt, Am.part, addOff, Nat.reduceAdd, Nat.reduceMul, Nat.reduceLeDiff, Nat.reduceSub, Nat.reduceLT, Int.reduceEq, Int.reduceLT, Int.reduceLE, Int.reduceGT, Int.reduceGE, Int.reduceAdd, Int.reduceSub, Int.reduceMul, Int.reduceNeg, Int.reduceToNat, reduceCtorEq, reduceIte, lenV_sl H.g, lenV_sl H.a, lenV_sl H.w, elem_sl Spn.el H.g, elem_sl Anc.el H.a, elem_sl Wal.el H.w, view_sl H.g, view_sl H.a, view_sl H.w, scalar_sl H.g, scalar_sl H.a, scalar_sl H.w, cells_sl H.g, cells_sl H.a, cells_sl H.w, pure_sl H.g, pure_sl H.a, pure_sl H.w, Spn.e, Anc.e, Wal.e, Spn.eta, Anc.eta, Wal.eta, Int.toNat_natCast, s18 H, hv, s90 H lg, q1, s95, resL_sc, resL_ce, resL_pu, resL_vi]
theorem s45 {n : Net} {g a w : AV} (H : NetOk n g a w) (hv : n.valid = true) (st : Bool) : Iso E 45 [netV n g a w] st = some (.tup [I (wv (lw n (calm n))), I (we (lw n (calm n)))]) := by
  have lg := (netB hv).lg
  have q1 := fun st => s96 H (calm_ok H) (calm_good hv).toFair st
  refine Iso_of (es _ _ _ _) e45 ?_
  simp only [f45, netV]
  simp only [netT] at q1
  simp (disch := first | assumption | omega | (simp only [az]; done)) only [ru, eq_self, if_true, if_false, BEq.rfl, binI, AO.row?, splice, fillL, mmAll, loadV, storeV, zeros, Am.rowAt, Am.part, addOff, Nat.reduceAdd, Nat.reduceMul, Nat.reduceLeDiff, Nat.reduceSub, Nat.reduceLT, Int.reduceEq, Int.reduceLT, Int.reduceLE, Int.reduceGT, Int.reduceGE, Int.reduceAdd, Int.reduceSub, Int.reduceMul, Int.reduceNeg, Int.reduceToNat, reduceCtorEq, reduceIte, lenV_sl H.g, lenV_sl H.a, lenV_sl H.w, elem_sl Spn.el H.g, elem_sl Anc.el H.a, elem_sl Wal.el H.w, view_sl H.g, view_sl H.a, view_sl H.w, scalar_sl H.g, scalar_sl H.a, scalar_sl H.w, cells_sl H.g, cells_sl H.a, cells_sl H.w, pure_sl H.g, pure_sl H.a, pure_sl H.w, Spn.e, Anc.e, Wal.e, Spn.eta, Anc.eta, Wal.eta, Int.toNat_natCast, s18 H, hv, s89 H lg, q1, s95, resL_sc, resL_ce, resL_pu, resL_vi]

/-! winds and truths -/
theorem rough_w {n : Net} {t : Tru} (G : Good n t) {x : Int} (h : t.wind ≤ x) : Calmer n t (inW (rough n) x) := ⟨h, (rough_calmer G).c, (rough_calmer G).g⟩
theorem calm_w {n : Net} {t : Tru} (G : Good n t) {x : Int} (h : x ≤ t.wind) : Calmer n (inW (calm n) x) t := ⟨h, (calm_calmer G).c, (calm_calmer G).g⟩
theorem calm_rough {n : Net} (hv : n.valid = true) (x : Int) : Calmer n (inW (calm n) x) (inW (rough n) x) :=
  ⟨Int.le_refl _, (rough_calmer (calm_good hv)).c, (rough_calmer (calm_good hv)).g⟩
/-- the program's Wind is not above its Storm -/
theorem wind_storm {n : Net} (hv : n.valid = true) (h : lw n (calm n) ≤ 20) : lw n (rough n) ≤ lw n (calm n) := by
  apply Nat.le_of_not_lt
  intro hlt
  have h1 := lw_still hlt
  have h2 := lw_drags h
  have := still_calmer (fair_w (calm_good hv).toFair (x := ((lw n (calm n) : Nat) : Int)) (by omega) (by omega)) (calm_rough hv _) h1
  rw [h2] at this
  cases this
theorem still_none {n : Net} {t : Tru} (G : Fair n t) (h : still n t = true) : (lst n (lfp n t none6)).length = 0 := by
  rw [still_iff] at h
  have c1 : Cl n t none6 := fun i hi hd => by
    have := h i hi
    simp only [stepS, hd, Bool.or_true] at this
    cases this
  have c : IsLfp n t none6 none6 := ⟨c1, fun i _ h => h, fun D _ hs => hs⟩
  rw [← lst_lfp c, lst_none]; rfl
theorem not_still {n : Net} {t : Tru} (G : Fair n t) (h : still n t = false) : 0 < (lst n (lfp n t none6)).length := by
  have : ¬ still n t = true := by simp [h]
  rw [still_iff] at this
  simp only [Classical.not_forall] at this
  obtain ⟨i, hi, hs⟩ := this
  exact List.length_pos_of_mem ((mem_lst hi).2 (first_part G i hi (by simpa using hs)))
/-- below Wind nothing drags -/
theorem below_wind {n : Net} {t : Tru} (G : Good n t) (h : t.wind < lw n (rough n)) : (lst n (lfp n t none6)).length = 0 := by
  have b := G.b.1
  have l := lw_le (n := n) (t := rough n)
  refine still_none G.toFair ?_
  have h1 := lw_still (n := n) (t := rough n) (j := t.wind.toNat) (by omega)
  refine still_calmer G.toFair (rough_w G (x := ((t.wind.toNat : Nat) : Int)) (by omega)) h1
/-- from Storm on something drags -/
theorem from_storm {n : Net} {t : Tru} (G : Good n t) (h : (lw n (calm n) : Int) ≤ t.wind) : 0 < (lst n (lfp n t none6)).length := by
  have b := G.b.1
  refine not_still G.toFair ?_
  have h1 := lw_drags (n := n) (t := calm n) (by omega)
  have h2 := fun hs => still_calmer (fair_w (calm_good G.v).toFair (x := ((lw n (calm n) : Nat) : Int)) (by omega) (by omega)) (calm_w G h) hs
  cases hs : still n t with
  | false => rfl
  | true => rw [h1] at h2; exact absurd (h2 hs) (by simp)
end Go.Proofs.Ytpflneddfhifkaa.S
