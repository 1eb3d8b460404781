/-
From, Falls, Exact and Enough.
-/
import Derived.Test.YtaeijjfgfenfhaaNx
namespace Go.Proofs.Ytaeijjfgfenfhaa.S
open Go Go.Am Go.Proofs.Ytaeijjfgfenfhaa.T
set_option maxRecDepth 100000
set_option linter.unusedSimpArgs false
set_option linter.unusedVariables false

set_option maxHeartbeats 1000000 in
theorem t58 {a b : Nat} (ha : a ≤ 1000000000000000) (hb : b ≤ 1000000000000000) (hb1 : 0 < b) (st : Bool) : Iso E 58 [I (a : Int), I (b : Int)] st = some (ratV (red a b)) := by
  refine Iso_of (es _ _ _ _) e58 ?_
  simp only [f58]
  have wn := wr64 (n := 0 - (a : Int)) (by omega) (by omega)
  have hmm : mmx true (a : Int) (0 - (a : Int)) = a := by unfold mmx; simp; omega
  simp (disch := first | assumption | omega | (simp only [az]; done)) only [ru, eq_self, if_true, if_false, BEq.rfl, binI, AO.row?, splice, fillL, mmAll, loadV, storeV, zeros, Am.rowAt, Am.part, addOff, Nat.reduceAdd, Nat.reduceMul, Nat.reduceLeDiff, Nat.reduceSub, Nat.reduceLT, Int.reduceEq, Int.reduceLT, Int.reduceLE, Int.reduceGT, Int.reduceGE, Int.reduceAdd, Int.reduceSub, Int.reduceMul, Int.reduceNeg, Int.reduceToNat, reduceCtorEq, reduceIte, wn, hmm]
  refine G_loop_ind (fun y ts hk mk => ∃ d r : Nat, y = r ∧ Nat.gcd d r = Nat.gcd b a ∧ d ≤ 1000000000000000 ∧ r ≤ 1000000000000000 ∧ hk = [.cells [I 0, I 0] false] ∧ ts.length = 25 ∧ ts.getD 0 .undef = I (a : Int) ∧ ts.getD 1 .undef = I (b : Int) ∧ ts.getD 4 .undef = .ptr 0 0 ∧ ts.getD 5 .undef = I (d : Int) ∧ ts.getD 6 .undef = I (r : Int) ∧ mk = []) ?_ b _ _ _ ⟨a, b, rfl, Nat.gcd_comm a b, ha, hb, rfl, rfl, rfl, rfl, rfl, rfl, rfl, rfl⟩
  rintro y ts hk mk ih ⟨d, r, rfl, hg, hd, hr, rfl, hl', q0, q1, q4, q5, q6, rfl⟩
  rw [lit_all hl']
  simp only [lit0, litS, Nat.reduceAdd, q0, q1, q4, q5, q6]
  by_cases c : (y : Int) > 0
  · have n0 : ¬ (y : Int) = 0 := by omega
    have tm : (d : Int).tmod (y : Int) = ((d % y : Nat) : Int) := rfl
    have hlt : d % y < y := Nat.mod_lt _ (by omega)
    simp (disch := first | assumption | omega | (simp only [az]; done)) only [ru, eq_self, if_true, if_false, BEq.rfl, binI, AO.row?, splice, fillL, mmAll, loadV, storeV, zeros, Am.rowAt, Am.part, addOff, Nat.reduceAdd, Nat.reduceMul, Nat.reduceLeDiff, Nat.reduceSub, Nat.reduceLT, Int.reduceEq, Int.reduceLT, Int.reduceLE, Int.reduceGT, Int.reduceGE, Int.reduceAdd, Int.reduceSub, Int.reduceMul, Int.reduceNeg, Int.reduceToNat, reduceCtorEq, reduceIte, c, n0, tm]
    refine ih (d % y) _ _ _ (by omega) ⟨y, d % y, rfl, ?_, by omega, by omega, rfl, rfl, rfl, rfl, rfl, rfl, rfl, rfl⟩
    rw [← hg, Nat.gcd_comm y, ← Nat.gcd_rec, Nat.gcd_comm]
  · obtain rfl : y = 0 := by omega
    rw [Nat.gcd_zero_right] at hg
    subst hg
    have hg0 : 0 < Nat.gcd b a := Nat.gcd_pos_of_pos_left _ hb1
    have n0 : ¬ ((Nat.gcd b a : Nat) : Int) = 0 := by omega
    have t1 : (a : Int).tdiv ((Nat.gcd b a : Nat) : Int) = ((a / Nat.gcd b a : Nat) : Int) := rfl
    have t2 : (b : Int).tdiv ((Nat.gcd b a : Nat) : Int) = ((b / Nat.gcd b a : Nat) : Int) := rfl
    have b1 := Nat.div_le_self a (Nat.gcd b a)
    have b2 := Nat.div_le_self b (Nat.gcd b a)
    have er : red a b = (a / Nat.gcd b a, b / Nat.gcd b a) := rfl
    rw [er]
    obtain ⟨x1, hx1⟩ : ∃ x, x = a / Nat.gcd b a := ⟨_, rfl⟩
    obtain ⟨x2, hx2⟩ : ∃ x, x = b / Nat.gcd b a := ⟨_, rfl⟩
    rw [← hx1] at t1 b1 ⊢
    rw [← hx2] at t2 b2 ⊢
    have w1 := wr64 (n := (x1 : Int)) (by omega) (by omega)
    have w2 := wr64 (n := (x2 : Int)) (by omega) (by omega)
    simp (disch := first | assumption | omega | (simp only [az]; done)) only [ru, eq_self, if_true, if_false, BEq.rfl, binI, AO.row?, splice, fillL, mmAll, loadV, storeV, zeros, Am.rowAt, Am.part, addOff, Nat.reduceAdd, Nat.reduceMul, Nat.reduceLeDiff, Nat.reduceSub, Nat.reduceLT, Int.reduceEq, Int.reduceLT, Int.reduceLE, Int.reduceGT, Int.reduceGE, Int.reduceAdd, Int.reduceSub, Int.reduceMul, Int.reduceNeg, Int.reduceToNat, reduceCtorEq, reduceIte, c, n0, t1, t2, w1, w2, finC, getRes, Option.some.injEq, exists_eq_left', view_agg]
section
variable {C : List Nd} {v : AV} (hv : IsSl 3 Nd.e C v) (H : CuOk C)
include hv H
theorem t78 : ∀ (j : Nat), j < C.length → ∀ st, Iso E 78 [cuV v, I j] st = some (.tup [I ((exA C j).1 : Int), I ((exA C j).2 : Int)]) := by
  intro j
  induction j using Nat.strongRecOn with
  | _ j ih =>
    intro hj st
    refine Iso_of (es _ _ _ _) e78 ?_
    simp only [f78]
    by_cases e : j = 0
    · subst e
      rw [exA_zero]
      simp (disch := first | assumption | omega | (simp only [az]; done)) only [ru, eq_self, if_true, if_false, BEq.rfl, binI, AO.row?, splice, fillL, mmAll, loadV, storeV, zeros, Am.rowAt, Am.part, addOff, Nat.reduceAdd, Nat.reduceMul, Nat.reduceLeDiff, Nat.reduceSub, Nat.reduceLT, Int.reduceEq, Int.reduceLT, Int.reduceLE, Int.reduceGT, Int.reduceGE, Int.reduceAdd, Int.reduceSub, Int.reduceMul, Int.reduceNeg, Int.reduceToNat, reduceCtorEq, reduceIte, lenV_sl hv, view_sl hv, scalar_sl hv, cells_sl hv, pure_sl hv, BEq.rfl]
    · have hu := H.up j (by omega) hj
      have b0 : ((j : Int) == 0) = false := by simp [e]
      have hjl : (j : Int) < C.length := by omega
      have hx := exA_eq H (show 1 ≤ j by omega) hj
      obtain ⟨q, hq⟩ : ∃ q : Nat, (ndA C j).up = q := ⟨(ndA C j).up.toNat, by omega⟩
      have h50 := fun st => t50 hv H (i := (q : Int)) (by omega) st
      rw [hq] at hx
      by_cases hS : rsS C q = 0
      · rw [if_pos hS] at hx
        rw [hx]
        have bS : (rsS C q == 0) = true := by simp [hS]
        simp (disch := first | assumption | omega | (simp only [az]; done)) only [ru, eq_self, if_true, if_false, BEq.rfl, binI, AO.row?, splice, fillL, mmAll, loadV, storeV, zeros, Am.rowAt, Am.part, addOff, Nat.reduceAdd, Nat.reduceMul, Nat.reduceLeDiff, Nat.reduceSub, Nat.reduceLT, Int.reduceEq, Int.reduceLT, Int.reduceLE, Int.reduceGT, Int.reduceGE, Int.reduceAdd, Int.reduceSub, Int.reduceMul, Int.reduceNeg, Int.reduceToNat, reduceCtorEq, reduceIte, lenV_sl hv, view_sl hv, scalar_sl hv, cells_sl hv, pure_sl hv, b0, elem_nd hv, Int.toNat_natCast, hq, h50, bS]
      · rw [if_neg hS, Int.toNat_natCast] at hx
        have bS : (rsS C q == 0) = false := by simp [hS]
        have hrec := fun st => ih q (by omega) (by omega) st
        obtain ⟨x1, x2, x3⟩ := exA_bd H q (by omega)
        have hp7 := pow72 H (j := q) (by omega)
        have hs := rsS_bd H (i := (q : Int))
        have hw := H.w j hj
        obtain ⟨s, hs'⟩ : ∃ s : Nat, rsS C q = s := ⟨(rsS C q).toNat, by omega⟩
        obtain ⟨w, hw'⟩ : ∃ w : Nat, (ndA C j).w = w := ⟨(ndA C j).w.toNat, by omega⟩
        rw [hs', Int.toNat_natCast, hw', Int.toNat_natCast] at hx
        rw [hs'] at h50 bS hs
        rw [hw'] at hw
        obtain ⟨P, hP⟩ : ∃ P, P = exA C q := ⟨_, rfl⟩
        rw [← hP] at hrec x1 x2 x3 hx
        have m1 : P.1 * w ≤ 10030613004288 * 9 := Nat.mul_le_mul (by omega) (by omega)
        have m2 : P.2 * s ≤ 10030613004288 * 72 := Nat.mul_le_mul (by omega) (by omega)
        have c1 : (P.1 : Int) * (w : Int) = ((P.1 * w : Nat) : Int) := rfl
        have c2 : (P.2 : Int) * (s : Int) = ((P.2 * s : Nat) : Int) := rfl
        rw [hx]
        simp only
        obtain ⟨y1, hy1⟩ : ∃ y, y = P.1 * w := ⟨_, rfl⟩
        obtain ⟨y2, hy2⟩ : ∃ y, y = P.2 * s := ⟨_, rfl⟩
        rw [← hy1] at m1 c1 ⊢
        rw [← hy2] at m2 c2 ⊢
        have g1 := wr64 (n := (y1 : Int)) (by omega) (by omega)
        have g2 := wr64 (n := (y2 : Int)) (by omega) (by omega)
        simp (disch := first | assumption | omega | (simp only [az]; done)) only [ru, eq_self, if_true, if_false, BEq.rfl, binI, AO.row?, splice, fillL, mmAll, loadV, storeV, zeros, Am.rowAt, Am.part, addOff, Nat.reduceAdd, Nat.reduceMul, Nat.reduceLeDiff, Nat.reduceSub, Nat.reduceLT, Int.reduceEq, Int.reduceLT, Int.reduceLE, Int.reduceGT, Int.reduceGE, Int.reduceAdd, Int.reduceSub, Int.reduceMul, Int.reduceNeg, Int.reduceToNat, reduceCtorEq, reduceIte, lenV_sl hv, view_sl hv, scalar_sl hv, cells_sl hv, pure_sl hv, b0, elem_nd hv, Int.toNat_natCast, hq, h50, bS, hrec, hw', c1, c2, g1, g2]
        done
/-- each keeps enough -/
theorem t82 {L : List Int} {lv : AV} (V : IsSl 1 intL L lv) (hL : L.length = C.length) {p : Int} (hp : 0 ≤ p) (hp2 : p ≤ 1000) (st : Bool) : Iso E 82 [cuV v, lv, I p] st = some (Bo (eno C p L)) := by
  have n8 := H.n8
  refine Iso_of (es _ _ _ _) e82 ?_
  simp only [f82]
  have a69 := fun st => t69 hv H hp hp2 st
  have r7 := resL_is (kL C p)
  obtain ⟨w, hw⟩ : ∃ w, w = resL (kL C p) := ⟨_, rfl⟩
  rw [← hw] at a69 r7
  have l7 : (((kL C p).length : Nat) : Int) = (C.length : Int) := by rw [kL_len]
  simp (disch := first | assumption | omega | (simp only [az]; done)) only [ru, eq_self, if_true, if_false, BEq.rfl, binI, AO.row?, splice, fillL, mmAll, loadV, storeV, zeros, Am.rowAt, Am.part, addOff, Nat.reduceAdd, Nat.reduceMul, Nat.reduceLeDiff, Nat.reduceSub, Nat.reduceLT, Int.reduceEq, Int.reduceLT, Int.reduceLE, Int.reduceGT, Int.reduceGE, Int.reduceAdd, Int.reduceSub, Int.reduceMul, Int.reduceNeg, Int.reduceToNat, reduceCtorEq, reduceIte, lenV_sl hv, view_sl hv, scalar_sl hv, cells_sl hv, pure_sl hv, lenV_sl V, view_sl V, scalar_sl V, cells_sl V, pure_sl V, a69]
  refine G_loop_ind (fun y ts hk mk => ∃ i : Nat, i ≤ C.length ∧ y = C.length - i ∧ ((List.range i).all fun j => decide (L.getD j 0 ≤ kK C p j)) = true ∧ hk = [.cells [v] false] ∧ ts.length = 27 ∧ ts.getD 1 .undef = lv ∧ ts.getD 7 .undef = w ∧ ts.getD 8 .undef = I i ∧ mk = []) ?_ C.length _ _ _ ⟨0, Nat.zero_le _, rfl, rfl, rfl, rfl, rfl, rfl, rfl, rfl⟩
  rintro y ts hk mk ih ⟨i, hi, rfl, hall, rfl, hl', q1, q7, q8, rfl⟩
  rw [lit_all hl']
  simp only [lit0, litS, Nat.reduceAdd, q1, q7, q8]
  by_cases hlt : (i : Int) < C.length
  · have lt7 : (i : Int) < ((kL C p).length : Int) := by rw [kL_len]; exact hlt
    have ltL : (i : Int) < (L.length : Int) := by omega
    have kat := kL_at (C := C) (p := p) (j := i) (by omega)
    by_cases c : kK C p i < L.getD i 0
    · have : eno C p L = false := by
        have := range_not (N := L.length) (p := fun j => decide (L.getD j 0 ≤ kK C p j)) (show i < L.length by omega) (by rw [decide_eq_false_iff_not]; omega)
        exact this
      simp (disch := first | assumption | omega | (simp only [az]; done)) only [ru, eq_self, if_true, if_false, BEq.rfl, binI, AO.row?, splice, fillL, mmAll, loadV, storeV, zeros, Am.rowAt, Am.part, addOff, Nat.reduceAdd, Nat.reduceMul, Nat.reduceLeDiff, Nat.reduceSub, Nat.reduceLT, Int.reduceEq, Int.reduceLT, Int.reduceLE, Int.reduceGT, Int.reduceGE, Int.reduceAdd, Int.reduceSub, Int.reduceMul, Int.reduceNeg, Int.reduceToNat, reduceCtorEq, reduceIte, hlt, lt7, ltL, lenV_sl V, elem_in V, view_sl V, scalar_sl V, cells_sl V, pure_sl V, Int.toNat_natCast, lenV_sl r7, elem_in r7, view_sl r7, scalar_sl r7, cells_sl r7, pure_sl r7, Int.toNat_natCast, l7, kat, c, this]
    · simp (disch := first | assumption | omega | (simp only [az]; done)) only [ru, eq_self, if_true, if_false, BEq.rfl, binI, AO.row?, splice, fillL, mmAll, loadV, storeV, zeros, Am.rowAt, Am.part, addOff, Nat.reduceAdd, Nat.reduceMul, Nat.reduceLeDiff, Nat.reduceSub, Nat.reduceLT, Int.reduceEq, Int.reduceLT, Int.reduceLE, Int.reduceGT, Int.reduceGE, Int.reduceAdd, Int.reduceSub, Int.reduceMul, Int.reduceNeg, Int.reduceToNat, reduceCtorEq, reduceIte, hlt, lt7, ltL, lenV_sl V, elem_in V, view_sl V, scalar_sl V, cells_sl V, pure_sl V, Int.toNat_natCast, lenV_sl r7, elem_in r7, view_sl r7, scalar_sl r7, cells_sl r7, pure_sl r7, Int.toNat_natCast, l7, kat, c]
      exact ih (C.length - (i + 1)) _ _ _ (by omega) ⟨i + 1, by omega, rfl, range_all_succ hall (by rw [decide_eq_true_eq]; omega), rfl, rfl, rfl, rfl, rfl, rfl⟩
  · obtain rfl : i = C.length := by omega
    rw [← hL] at hall
    have : eno C p L = true := hall
    simp (disch := first | assumption | omega | (simp only [az]; done)) only [ru, eq_self, if_true, if_false, BEq.rfl, binI, AO.row?, splice, fillL, mmAll, loadV, storeV, zeros, Am.rowAt, Am.part, addOff, Nat.reduceAdd, Nat.reduceMul, Nat.reduceLeDiff, Nat.reduceSub, Nat.reduceLT, Int.reduceEq, Int.reduceLT, Int.reduceLE, Int.reduceGT, Int.reduceGE, Int.reduceAdd, Int.reduceSub, Int.reduceMul, Int.reduceNeg, Int.reduceToNat, reduceCtorEq, reduceIte, hlt, lenV_sl r7, elem_in r7, view_sl r7, scalar_sl r7, cells_sl r7, pure_sl r7, Int.toNat_natCast, l7, this]
end
section
variable {C : List Nd} {v : AV} (hv : IsSl 3 Nd.e C v) (hl : C.length ≤ 1000)
include hv hl
theorem t34 (i : Int) (st : Bool) : Iso E 34 [cuV v, I i] st = some (.tup [ratV (exR2 C i), I (exE C i)]) := by
  refine Iso_of (es _ _ _ _) e34 ?_
  simp only [f34]
  have hf := fun b st => t67 hv hl b st
  unfold exR2
  by_cases h0 : exE C i = 0
  · have h0' := h0
    unfold exE at h0'
    obtain ⟨H, hi, _, _⟩ := fit_ok h0'
    have hi' := inR_iff.1 hi
    obtain ⟨j, rfl⟩ : ∃ q : Nat, i = q := ⟨i.toNat, by omega⟩
    have hb1 : ((0 : Int) != 0) = false := rfl
    have hf0 := fun st => hf (inR j 0 (C.length - 1)) st
    rw [h0'] at hf0
    rw [if_pos h0, h0, Int.toNat_natCast]
    obtain ⟨x1, x2, x3⟩ := exA_bd H j (by omega)
    have hp7 := pow72 H (j := j) (by omega)
    have a58 := fun st => t58 (a := (exA C j).1) (b := (exA C j).2) (by omega) (by omega) x2 st
    simp (disch := first | assumption | omega | (simp only [az]; done)) only [ru, eq_self, if_true, if_false, BEq.rfl, binI, AO.row?, splice, fillL, mmAll, loadV, storeV, zeros, Am.rowAt, Am.part, addOff, Nat.reduceAdd, Nat.reduceMul, Nat.reduceLeDiff, Nat.reduceSub, Nat.reduceLT, Int.reduceEq, Int.reduceLT, Int.reduceLE, Int.reduceGT, Int.reduceGE, Int.reduceAdd, Int.reduceSub, Int.reduceMul, Int.reduceNeg, Int.reduceToNat, reduceCtorEq, reduceIte, lenV_sl hv, view_sl hv, scalar_sl hv, cells_sl hv, pure_sl hv, t49 hv hl, hf0, hb1, t78 hv H j (by omega), a58, finC2, getRes, Option.some.injEq, exists_eq_left', view_agg]
    done
  · have hb0 : (fitE C (inR i 0 (C.length - 1)) [] != 0) = true := bne_iff_ne.2 h0
    rw [if_neg h0]
    simp (disch := first | assumption | omega | (simp only [az]; done)) only [ru, eq_self, if_true, if_false, BEq.rfl, binI, AO.row?, splice, fillL, mmAll, loadV, storeV, zeros, Am.rowAt, Am.part, addOff, Nat.reduceAdd, Nat.reduceMul, Nat.reduceLeDiff, Nat.reduceSub, Nat.reduceLT, Int.reduceEq, Int.reduceLT, Int.reduceLE, Int.reduceGT, Int.reduceGE, Int.reduceAdd, Int.reduceSub, Int.reduceMul, Int.reduceNeg, Int.reduceToNat, reduceCtorEq, reduceIte, lenV_sl hv, view_sl hv, scalar_sl hv, cells_sl hv, pure_sl hv, t49 hv hl, hf, hb0, finC2, getRes, Option.some.injEq, exists_eq_left', view_agg]
    rfl
theorem t30 (i c : Int) (st : Bool) : Iso E 30 [cuV v, I i, I c] st = some (ansN (fitE C (inR i 0 (C.length - 1) && inR c 0 400) []) (frA 400 fun p => decide (gG C p i.toNat ≥ c))) := by
  refine Iso_of (es _ _ _ _) e30 ?_
  simp only [f30]
  have hf := fun b st => t67 hv hl b st
  unfold ansN
  cases hi : inR i 0 (C.length - 1)
  · have h0 : fitE C false [] ≠ 0 := by
      intro h; have := (fit_ok h).2.1; cases this
    have hb0 : (fitE C false [] != 0) = true := by simp [h0]
    simp only [Bool.false_and]
    simp (disch := first | assumption | omega | (simp only [az]; done)) only [ru, eq_self, if_true, if_false, BEq.rfl, binI, AO.row?, splice, fillL, mmAll, loadV, storeV, zeros, Am.rowAt, Am.part, addOff, Nat.reduceAdd, Nat.reduceMul, Nat.reduceLeDiff, Nat.reduceSub, Nat.reduceLT, Int.reduceEq, Int.reduceLT, Int.reduceLE, Int.reduceGT, Int.reduceGE, Int.reduceAdd, Int.reduceSub, Int.reduceMul, Int.reduceNeg, Int.reduceToNat, reduceCtorEq, reduceIte, lenV_sl hv, view_sl hv, scalar_sl hv, cells_sl hv, pure_sl hv, t46, t49 hv hl, hi, gUn, hf, hb0, h0]
  · simp only [Bool.true_and]
    by_cases h0 : fitE C (inR c 0 400) [] = 0
    · obtain ⟨H, hb, _, _⟩ := fit_ok h0
      rw [inR_iff] at hi
      have hi' : inR i 0 (C.length - 1) = true := inR_iff.2 hi
      obtain ⟨j, rfl⟩ : ∃ q : Nat, i = q := ⟨i.toNat, by omega⟩
      have hb1 : ((0 : Int) != 0) = false := rfl
      have hf0 := fun st => hf (inR c 0 400) st
      rw [h0] at hf0 ⊢
      rw [Int.toNat_natCast]
      simp (disch := first | assumption | omega | (simp only [az]; done)) only [ru, eq_self, if_true, if_false, BEq.rfl, binI, AO.row?, splice, fillL, mmAll, loadV, storeV, zeros, Am.rowAt, Am.part, addOff, Nat.reduceAdd, Nat.reduceMul, Nat.reduceLeDiff, Nat.reduceSub, Nat.reduceLT, Int.reduceEq, Int.reduceLT, Int.reduceLE, Int.reduceGT, Int.reduceGE, Int.reduceAdd, Int.reduceSub, Int.reduceMul, Int.reduceNeg, Int.reduceToNat, reduceCtorEq, reduceIte, lenV_sl hv, view_sl hv, scalar_sl hv, cells_sl hv, pure_sl hv, t46, t49 hv hl, hi', gUn, hf0, hb1]
      refine G_loop_ind (fun y ts hk mk => ∃ i : Nat, i ≤ 401 ∧ y = 401 - i ∧ (List.range i).find? (fun p : Nat => decide (gG C p j ≥ c)) = none ∧ hk = [.cells [v] false] ∧ ts.length = 33 ∧ ts.getD 1 .undef = I j ∧ ts.getD 2 .undef = I c ∧ ts.getD 3 .undef = .ptr 0 0 ∧ ts.getD 9 .undef = I i ∧ mk = []) ?_ 401 _ _ _ ⟨0, Nat.zero_le _, rfl, rfl, rfl, rfl, rfl, rfl, rfl, rfl, rfl⟩
      rintro y ts hk mk ih ⟨i, hi2, rfl, hall, rfl, hl', q1, q2, q3, q9, rfl⟩
      rw [lit_all hl']
      simp only [lit0, litS, Nat.reduceAdd, q1, q2, q3, q9]
      by_cases hlt : (i : Int) ≤ 400
      · have a68 := t68 hv H (p := (i : Int)) (by omega) (by omega) j (by omega)
        by_cases cc : gG C i j ≥ c
        · simp (disch := first | assumption | omega | (simp only [az]; done)) only [ru, eq_self, if_true, if_false, BEq.rfl, binI, AO.row?, splice, fillL, mmAll, loadV, storeV, zeros, Am.rowAt, Am.part, addOff, Nat.reduceAdd, Nat.reduceMul, Nat.reduceLeDiff, Nat.reduceSub, Nat.reduceLT, Int.reduceEq, Int.reduceLT, Int.reduceLE, Int.reduceGT, Int.reduceGE, Int.reduceAdd, Int.reduceSub, Int.reduceMul, Int.reduceNeg, Int.reduceToNat, reduceCtorEq, reduceIte, hlt, lenV_sl hv, view_sl hv, scalar_sl hv, cells_sl hv, pure_sl hv, a68, cc]
          unfold frA frN frE; rw [find_some hall (by omega) (decide_eq_true cc)]
        · simp (disch := first | assumption | omega | (simp only [az]; done)) only [ru, eq_self, if_true, if_false, BEq.rfl, binI, AO.row?, splice, fillL, mmAll, loadV, storeV, zeros, Am.rowAt, Am.part, addOff, Nat.reduceAdd, Nat.reduceMul, Nat.reduceLeDiff, Nat.reduceSub, Nat.reduceLT, Int.reduceEq, Int.reduceLT, Int.reduceLE, Int.reduceGT, Int.reduceGE, Int.reduceAdd, Int.reduceSub, Int.reduceMul, Int.reduceNeg, Int.reduceToNat, reduceCtorEq, reduceIte, hlt, lenV_sl hv, view_sl hv, scalar_sl hv, cells_sl hv, pure_sl hv, a68, cc]
          exact ih (401 - (i + 1)) _ _ _ (by omega) ⟨i + 1, by omega, rfl, find_none hall (decide_eq_false cc), rfl, rfl, rfl, rfl, rfl, rfl, rfl⟩
      · obtain rfl : i = 401 := by omega
        simp (disch := first | assumption | omega | (simp only [az]; done)) only [ru, eq_self, if_true, if_false, BEq.rfl, binI, AO.row?, splice, fillL, mmAll, loadV, storeV, zeros, Am.rowAt, Am.part, addOff, Nat.reduceAdd, Nat.reduceMul, Nat.reduceLeDiff, Nat.reduceSub, Nat.reduceLT, Int.reduceEq, Int.reduceLT, Int.reduceLE, Int.reduceGT, Int.reduceGE, Int.reduceAdd, Int.reduceSub, Int.reduceMul, Int.reduceNeg, Int.reduceToNat, reduceCtorEq, reduceIte, hlt]
        unfold frA frN frE; rw [hall]
    · have hb0 : (fitE C (inR c 0 400) [] != 0) = true := by simp [h0]
      simp (disch := first | assumption | omega | (simp only [az]; done)) only [ru, eq_self, if_true, if_false, BEq.rfl, binI, AO.row?, splice, fillL, mmAll, loadV, storeV, zeros, Am.rowAt, Am.part, addOff, Nat.reduceAdd, Nat.reduceMul, Nat.reduceLeDiff, Nat.reduceSub, Nat.reduceLT, Int.reduceEq, Int.reduceLT, Int.reduceLE, Int.reduceGT, Int.reduceGE, Int.reduceAdd, Int.reduceSub, Int.reduceMul, Int.reduceNeg, Int.reduceToNat, reduceCtorEq, reduceIte, lenV_sl hv, view_sl hv, scalar_sl hv, cells_sl hv, pure_sl hv, t46, t49 hv hl, hi, gUn, hf, hb0, h0]
theorem t32 (i : Int) (st : Bool) : Iso E 32 [cuV v, I i] st = some (ansN (fitE C (inR i 0 (C.length - 1)) []) (frA 399 fun p => decide (gG C p i.toNat > gG C (p + 1) i.toNat))) := by
  refine Iso_of (es _ _ _ _) e32 ?_
  simp only [f32]
  have hf := fun b st => t67 hv hl b st
  unfold ansN
  by_cases h0 : fitE C (inR i 0 (C.length - 1)) [] = 0
  · obtain ⟨H, hi, _, _⟩ := fit_ok h0
    have hi' := hi
    rw [inR_iff] at hi
    obtain ⟨j, rfl⟩ : ∃ q : Nat, i = q := ⟨i.toNat, by omega⟩
    have hb1 : ((0 : Int) != 0) = false := rfl
    have hf0 := fun st => hf (inR j 0 (C.length - 1)) st
    rw [h0] at hf0 ⊢
    rw [Int.toNat_natCast]
    simp (disch := first | assumption | omega | (simp only [az]; done)) only [ru, eq_self, if_true, if_false, BEq.rfl, binI, AO.row?, splice, fillL, mmAll, loadV, storeV, zeros, Am.rowAt, Am.part, addOff, Nat.reduceAdd, Nat.reduceMul, Nat.reduceLeDiff, Nat.reduceSub, Nat.reduceLT, Int.reduceEq, Int.reduceLT, Int.reduceLE, Int.reduceGT, Int.reduceGE, Int.reduceAdd, Int.reduceSub, Int.reduceMul, Int.reduceNeg, Int.reduceToNat, reduceCtorEq, reduceIte, lenV_sl hv, view_sl hv, scalar_sl hv, cells_sl hv, pure_sl hv, t46, t49 hv hl, hf0, hb1]
    refine G_loop_ind (fun y ts hk mk => ∃ i : Nat, i ≤ 400 ∧ y = 400 - i ∧ (List.range i).find? (fun p : Nat => decide (gG C p j > gG C (p + 1) j)) = none ∧ hk = [.cells [v] false] ∧ ts.length = 31 ∧ ts.getD 1 .undef = I j ∧ ts.getD 2 .undef = .ptr 0 0 ∧ ts.getD 7 .undef = I i ∧ mk = []) ?_ 400 _ _ _ ⟨0, Nat.zero_le _, rfl, rfl, rfl, rfl, rfl, rfl, rfl, rfl⟩
    rintro y ts hk mk ih ⟨i, hi2, rfl, hall, rfl, hl', q1, q2, q7, rfl⟩
    rw [lit_all hl']
    simp only [lit0, litS, Nat.reduceAdd, q1, q2, q7]
    by_cases hlt : (i : Int) < 400
    · have a68 := t68 hv H (p := (i : Int)) (by omega) (by omega) j (by omega)
      have b68 := t68 hv H (p := (i : Int) + 1) (by omega) (by omega) j (by omega)
      have ew := wr64 (n := (i : Int) + 1) (by omega) (by omega)
      by_cases cc : gG C i j > gG C ((i : Int) + 1) j
      · simp (disch := first | assumption | omega | (simp only [az]; done)) only [ru, eq_self, if_true, if_false, BEq.rfl, binI, AO.row?, splice, fillL, mmAll, loadV, storeV, zeros, Am.rowAt, Am.part, addOff, Nat.reduceAdd, Nat.reduceMul, Nat.reduceLeDiff, Nat.reduceSub, Nat.reduceLT, Int.reduceEq, Int.reduceLT, Int.reduceLE, Int.reduceGT, Int.reduceGE, Int.reduceAdd, Int.reduceSub, Int.reduceMul, Int.reduceNeg, Int.reduceToNat, reduceCtorEq, reduceIte, hlt, lenV_sl hv, view_sl hv, scalar_sl hv, cells_sl hv, pure_sl hv, a68, b68, ew, cc]
        unfold frA frN frE; rw [find_some hall (by omega) (decide_eq_true cc)]
      · simp (disch := first | assumption | omega | (simp only [az]; done)) only [ru, eq_self, if_true, if_false, BEq.rfl, binI, AO.row?, splice, fillL, mmAll, loadV, storeV, zeros, Am.rowAt, Am.part, addOff, Nat.reduceAdd, Nat.reduceMul, Nat.reduceLeDiff, Nat.reduceSub, Nat.reduceLT, Int.reduceEq, Int.reduceLT, Int.reduceLE, Int.reduceGT, Int.reduceGE, Int.reduceAdd, Int.reduceSub, Int.reduceMul, Int.reduceNeg, Int.reduceToNat, reduceCtorEq, reduceIte, hlt, lenV_sl hv, view_sl hv, scalar_sl hv, cells_sl hv, pure_sl hv, a68, b68, ew, cc]
        exact ih (400 - (i + 1)) _ _ _ (by omega) ⟨i + 1, by omega, rfl, find_none hall (decide_eq_false cc), rfl, rfl, rfl, rfl, rfl, rfl⟩
    · obtain rfl : i = 400 := by omega
      simp (disch := first | assumption | omega | (simp only [az]; done)) only [ru, eq_self, if_true, if_false, BEq.rfl, binI, AO.row?, splice, fillL, mmAll, loadV, storeV, zeros, Am.rowAt, Am.part, addOff, Nat.reduceAdd, Nat.reduceMul, Nat.reduceLeDiff, Nat.reduceSub, Nat.reduceLT, Int.reduceEq, Int.reduceLT, Int.reduceLE, Int.reduceGT, Int.reduceGE, Int.reduceAdd, Int.reduceSub, Int.reduceMul, Int.reduceNeg, Int.reduceToNat, reduceCtorEq, reduceIte, hlt]
      unfold frA frN frE; rw [hall]
  · have hb0 : (fitE C (inR i 0 (C.length - 1)) [] != 0) = true := by simp [h0]
    simp (disch := first | assumption | omega | (simp only [az]; done)) only [ru, eq_self, if_true, if_false, BEq.rfl, binI, AO.row?, splice, fillL, mmAll, loadV, storeV, zeros, Am.rowAt, Am.part, addOff, Nat.reduceAdd, Nat.reduceMul, Nat.reduceLeDiff, Nat.reduceSub, Nat.reduceLT, Int.reduceEq, Int.reduceLT, Int.reduceLE, Int.reduceGT, Int.reduceGE, Int.reduceAdd, Int.reduceSub, Int.reduceMul, Int.reduceNeg, Int.reduceToNat, reduceCtorEq, reduceIte, lenV_sl hv, view_sl hv, scalar_sl hv, cells_sl hv, pure_sl hv, t46, t49 hv hl, hf, hb0, h0]
theorem t36 {L : List Int} {lv : AV} (V : IsSl 1 intL L lv) (hL : L.length ≤ 1000) (st : Bool) : Iso E 36 [cuV v, lv] st = some (ansN (fitE C (coB C L) []) (frA 400 fun p => eno C p L)) := by
  refine Iso_of (es _ _ _ _) e36 ?_
  simp only [f36]
  have hf := fun b st => t67 hv hl b st
  unfold ansN
  by_cases h0 : fitE C (coB C L) [] = 0
  · obtain ⟨H, hc, _, _⟩ := fit_ok h0
    have hLC := (coB_iff.1 hc).1
    have hb1 : ((0 : Int) != 0) = false := rfl
    have hf0 := fun st => hf (coB C L) st
    rw [h0] at hf0 ⊢
    simp (disch := first | assumption | omega | (simp only [az]; done)) only [ru, eq_self, if_true, if_false, BEq.rfl, binI, AO.row?, splice, fillL, mmAll, loadV, storeV, zeros, Am.rowAt, Am.part, addOff, Nat.reduceAdd, Nat.reduceMul, Nat.reduceLeDiff, Nat.reduceSub, Nat.reduceLT, Int.reduceEq, Int.reduceLT, Int.reduceLE, Int.reduceGT, Int.reduceGE, Int.reduceAdd, Int.reduceSub, Int.reduceMul, Int.reduceNeg, Int.reduceToNat, reduceCtorEq, reduceIte, lenV_sl hv, view_sl hv, scalar_sl hv, cells_sl hv, pure_sl hv, lenV_sl V, view_sl V, scalar_sl V, cells_sl V, pure_sl V, t56 hv V hL, hf0, hb1]
    refine G_loop_ind (fun y ts hk mk => ∃ i : Nat, i ≤ 401 ∧ y = 401 - i ∧ (List.range i).find? (fun p : Nat => eno C p L) = none ∧ hk = [.cells [v] false] ∧ ts.length = 25 ∧ ts.getD 1 .undef = lv ∧ ts.getD 2 .undef = .ptr 0 0 ∧ ts.getD 7 .undef = I i ∧ mk = []) ?_ 401 _ _ _ ⟨0, Nat.zero_le _, rfl, rfl, rfl, rfl, rfl, rfl, rfl, rfl⟩
    rintro y ts hk mk ih ⟨i, hi2, rfl, hall, rfl, hl', q1, q2, q7, rfl⟩
    rw [lit_all hl']
    simp only [lit0, litS, Nat.reduceAdd, q1, q2, q7]
    by_cases hlt : (i : Int) ≤ 400
    · have a82 := fun st => t82 hv H V hLC (p := (i : Int)) (by omega) (by omega) st
      cases cc : eno C i L
      · rw [cc] at a82
        simp (disch := first | assumption | omega | (simp only [az]; done)) only [ru, eq_self, if_true, if_false, BEq.rfl, binI, AO.row?, splice, fillL, mmAll, loadV, storeV, zeros, Am.rowAt, Am.part, addOff, Nat.reduceAdd, Nat.reduceMul, Nat.reduceLeDiff, Nat.reduceSub, Nat.reduceLT, Int.reduceEq, Int.reduceLT, Int.reduceLE, Int.reduceGT, Int.reduceGE, Int.reduceAdd, Int.reduceSub, Int.reduceMul, Int.reduceNeg, Int.reduceToNat, reduceCtorEq, reduceIte, hlt, lenV_sl hv, view_sl hv, scalar_sl hv, cells_sl hv, pure_sl hv, lenV_sl V, view_sl V, scalar_sl V, cells_sl V, pure_sl V, a82]
        exact ih (401 - (i + 1)) _ _ _ (by omega) ⟨i + 1, by omega, rfl, find_none hall cc, rfl, rfl, rfl, rfl, rfl, rfl⟩
      · rw [cc] at a82
        simp (disch := first | assumption | omega | (simp only [az]; done)) only [ru, eq_self, if_true, if_false, BEq.rfl, binI, AO.row?, splice, fillL, mmAll, loadV, storeV, zeros, Am.rowAt, Am.part, addOff, Nat.reduceAdd, Nat.reduceMul, Nat.reduceLeDiff, Nat.reduceSub, Nat.reduceLT, Int.reduceEq, Int.reduceLT, Int.reduceLE, Int.reduceGT, Int.reduceGE, Int.reduceAdd, Int.reduceSub, Int.reduceMul, Int.reduceNeg, Int.reduceToNat, reduceCtorEq, reduceIte, hlt, lenV_sl hv, view_sl hv, scalar_sl hv, cells_sl hv, pure_sl hv, lenV_sl V, view_sl V, scalar_sl V, cells_sl V, pure_sl V, a82]
        unfold frA frN frE; rw [find_some hall (by omega) cc]
    · obtain rfl : i = 401 := by omega
      simp (disch := first | assumption | omega | (simp only [az]; done)) only [ru, eq_self, if_true, if_false, BEq.rfl, binI, AO.row?, splice, fillL, mmAll, loadV, storeV, zeros, Am.rowAt, Am.part, addOff, Nat.reduceAdd, Nat.reduceMul, Nat.reduceLeDiff, Nat.reduceSub, Nat.reduceLT, Int.reduceEq, Int.reduceLT, Int.reduceLE, Int.reduceGT, Int.reduceGE, Int.reduceAdd, Int.reduceSub, Int.reduceMul, Int.reduceNeg, Int.reduceToNat, reduceCtorEq, reduceIte, hlt]
      unfold frA frN frE; rw [hall]
  · have hb0 : (fitE C (coB C L) [] != 0) = true := by simp [h0]
    simp (disch := first | assumption | omega | (simp only [az]; done)) only [ru, eq_self, if_true, if_false, BEq.rfl, binI, AO.row?, splice, fillL, mmAll, loadV, storeV, zeros, Am.rowAt, Am.part, addOff, Nat.reduceAdd, Nat.reduceMul, Nat.reduceLeDiff, Nat.reduceSub, Nat.reduceLT, Int.reduceEq, Int.reduceLT, Int.reduceLE, Int.reduceGT, Int.reduceGE, Int.reduceAdd, Int.reduceSub, Int.reduceMul, Int.reduceNeg, Int.reduceToNat, reduceCtorEq, reduceIte, lenV_sl hv, view_sl hv, scalar_sl hv, cells_sl hv, pure_sl hv, lenV_sl V, view_sl V, scalar_sl V, cells_sl V, pure_sl V, t56 hv V hL, hf, hb0, h0]
omit hv hl in
theorem ansN_tup {e : Int} {l : Nat} {q : Nat → Bool} : ansN e (frA l q) = .tup [I (if e = 0 then frN l q else 0), I (if e = 0 then frE l q else e)] := by
  unfold ansN frA; split <;> rfl
end
section
variable {C : List Nd} {v : AV} (hv : IsSl 3 Nd.e C v)
include hv
set_option maxHeartbeats 1000000 in
theorem l4 (i c : Int) : Iso E 4 [cuV v, I i, I c] false = some (Bo true) := by
  refine Iso_of (es _ _ _ _) e4 ?_
  simp only [f4]
  cases hf : far C
  case true => simp (disch := first | assumption | omega | (simp only [az]; done)) only [ru, eq_self, if_true, if_false, BEq.rfl, binI, AO.row?, splice, fillL, mmAll, loadV, storeV, zeros, Am.rowAt, Am.part, addOff, Nat.reduceAdd, Nat.reduceMul, Nat.reduceLeDiff, Nat.reduceSub, Nat.reduceLT, Int.reduceEq, Int.reduceLT, Int.reduceLE, Int.reduceGT, Int.reduceGE, Int.reduceAdd, Int.reduceSub, Int.reduceMul, Int.reduceNeg, Int.reduceToNat, reduceCtorEq, reduceIte, lenV_sl hv, view_sl hv, scalar_sl hv, cells_sl hv, pure_sl hv, t16 hv, hf, t17]
  have hl : C.length ≤ 1000 := by simp only [far, decide_eq_false_iff_not] at hf; omega
  obtain ⟨W, hW⟩ : ∃ W, W = slV 3 Nd.e C := ⟨_, rfl⟩
  have V : IsSl 3 Nd.e C W := by rw [hW]; exact slV_is
  have a18 := fun st => t18 hv hl st
  rw [← hW] at a18
  have a29 := fun st => t29 V hl i c st
  have a30 := fun st => t30 hv hl i c st
  have a31 := fun st => t31 V hl i st
  have a32 := fun st => t32 hv hl i st
  have a33 := fun st => t33 V hl i st
  have a34 := fun st => t34 hv hl i st
  simp only [ansN_tup] at a29 a30 a31 a32
  have ne : ∀ x : Int, (x == x) = true := fun x => by simp
  obtain ⟨x1, hx1⟩ : ∃ x : Int, x = if fitE C (inR i 0 (C.length - 1) && inR c 0 400) [] = 0 then frN 400 fun p => decide (gG C p i.toNat ≥ c) else 0 := ⟨_, rfl⟩
  obtain ⟨x2, hx2⟩ : ∃ x : Int, x = if fitE C (inR i 0 (C.length - 1) && inR c 0 400) [] = 0 then frE 400 fun p => decide (gG C p i.toNat ≥ c) else fitE C (inR i 0 (C.length - 1) && inR c 0 400) [] := ⟨_, rfl⟩
  obtain ⟨x3, hx3⟩ : ∃ x : Int, x = if fitE C (inR i 0 (C.length - 1)) [] = 0 then frN 399 fun p => decide (gG C p i.toNat > gG C (p + 1) i.toNat) else 0 := ⟨_, rfl⟩
  obtain ⟨x4, hx4⟩ : ∃ x : Int, x = if fitE C (inR i 0 (C.length - 1)) [] = 0 then frE 399 fun p => decide (gG C p i.toNat > gG C (p + 1) i.toNat) else fitE C (inR i 0 (C.length - 1)) [] := ⟨_, rfl⟩
  rw [← hx1, ← hx2] at a29 a30
  rw [← hx3, ← hx4] at a31 a32
  obtain ⟨e, he⟩ : ∃ e, e = exE C i := ⟨_, rfl⟩
  obtain ⟨⟨r1, r2⟩, hr⟩ : ∃ r, r = exR2 C i := ⟨_, rfl⟩
  rw [← he, ← hr] at a33 a34
  have a28 := fun st => t28 V hv hl st
  have eq : ∀ a b : Int, eqCells [true, true] [I a, I b] [I a, I b] = some true := fun a b => by simp [eqCells]
  clear hx1 hx2 hx3 hx4 he hr hW
  simp (disch := first | assumption | omega | (simp only [az]; done)) only [ru, eq_self, if_true, if_false, BEq.rfl, binI, AO.row?, splice, fillL, mmAll, loadV, storeV, zeros, Am.rowAt, Am.part, addOff, Nat.reduceAdd, Nat.reduceMul, Nat.reduceLeDiff, Nat.reduceSub, Nat.reduceLT, Int.reduceEq, Int.reduceLT, Int.reduceLE, Int.reduceGT, Int.reduceGE, Int.reduceAdd, Int.reduceSub, Int.reduceMul, Int.reduceNeg, Int.reduceToNat, reduceCtorEq, reduceIte, lenV_sl hv, view_sl hv, scalar_sl hv, cells_sl hv, pure_sl hv, lenV_sl V, view_sl V, scalar_sl V, cells_sl V, pure_sl V, t16 hv, hf, a18, ne, a29, a30, a31, a32, a33, a34, a28, gUn, pex_eqS, eq, Option.map_some, t17]
  done
set_option maxHeartbeats 1000000 in
theorem l5 {L : List Int} {lv : AV} (N : IsSl 1 intL L lv) : Iso E 5 [cuV v, lv] false = some (Bo true) := by
  refine Iso_of (es _ _ _ _) e5 ?_
  simp only [f5]
  cases hf : far C
  case true => simp (disch := first | assumption | omega | (simp only [az]; done)) only [ru, eq_self, if_true, if_false, BEq.rfl, binI, AO.row?, splice, fillL, mmAll, loadV, storeV, zeros, Am.rowAt, Am.part, addOff, Nat.reduceAdd, Nat.reduceMul, Nat.reduceLeDiff, Nat.reduceSub, Nat.reduceLT, Int.reduceEq, Int.reduceLT, Int.reduceLE, Int.reduceGT, Int.reduceGE, Int.reduceAdd, Int.reduceSub, Int.reduceMul, Int.reduceNeg, Int.reduceToNat, reduceCtorEq, reduceIte, lenV_sl hv, view_sl hv, scalar_sl hv, cells_sl hv, pure_sl hv, lenV_sl N, view_sl N, scalar_sl N, cells_sl N, pure_sl N, t16 hv, hf, t17]
  have hl : C.length ≤ 1000 := by simp only [far, decide_eq_false_iff_not] at hf; omega
  by_cases h40 : (L.length : Int) > 40
  · simp (disch := first | assumption | omega | (simp only [az]; done)) only [ru, eq_self, if_true, if_false, BEq.rfl, binI, AO.row?, splice, fillL, mmAll, loadV, storeV, zeros, Am.rowAt, Am.part, addOff, Nat.reduceAdd, Nat.reduceMul, Nat.reduceLeDiff, Nat.reduceSub, Nat.reduceLT, Int.reduceEq, Int.reduceLT, Int.reduceLE, Int.reduceGT, Int.reduceGE, Int.reduceAdd, Int.reduceSub, Int.reduceMul, Int.reduceNeg, Int.reduceToNat, reduceCtorEq, reduceIte, lenV_sl hv, view_sl hv, scalar_sl hv, cells_sl hv, pure_sl hv, lenV_sl N, view_sl N, scalar_sl N, cells_sl N, pure_sl N, t16 hv, hf, gUn, h40, decide_true, t17]
  have hL : L.length ≤ 1000 := by omega
  obtain ⟨W, hW⟩ : ∃ W, W = slV 3 Nd.e C := ⟨_, rfl⟩
  have V : IsSl 3 Nd.e C W := by rw [hW]; exact slV_is
  have a18 := fun st => t18 hv hl st
  rw [← hW] at a18
  obtain ⟨o, h', A, fr, oge, hc⟩ := cpyO (eb := 8) (lim := 0) (h := [.cells [v] false]) N intE intSc (by omega) (by omega) (Nat.zero_le _)
  simp only [List.length_cons, List.length_nil, Nat.zero_add, Nat.reduceAdd, List.cons_append, List.nil_append] at A oge
  have h0 : h'[0]? = some (.cells [v] false) := fr.at rfl
  have k0 : ∀ m, (h' ++ m)[0]? = some (.cells [v] false) := fun m => at_up h0
  have kc : ∀ m, (h' ++ m)[o]? = some (.cells (L.flatMap intL) false) := fun m => at_up hc
  have vw : ∀ m n, Am.view false (h' ++ m) (n + 1) (.ms 1 o 0 L.length) = some (slV 1 intL L) := fun m n => viewB (kc m)
  have a35 := fun st => t35 V hl (slV_is (esz := 1) (enc := intL) (l := L)) hL st
  have a36 := fun st => t36 hv hl N hL st
  simp only [ansN_tup] at a35 a36
  have ne : ∀ x : Int, (x == x) = true := fun x => by simp
  obtain ⟨x1, hx1⟩ : ∃ x : Int, x = if fitE C (coB C L) [] = 0 then frN 400 fun p => eno C p L else 0 := ⟨_, rfl⟩
  obtain ⟨x2, hx2⟩ : ∃ x : Int, x = if fitE C (coB C L) [] = 0 then frE 400 fun p => eno C p L else fitE C (coB C L) [] := ⟨_, rfl⟩
  rw [← hx1, ← hx2] at a35 a36
  have a28 := fun st => t28 V hv hl st
  have a27 := fun st => t27' (slV_is (esz := 1) (enc := intL) (l := L)) N (by omega) st
  clear hx1 hx2 hW
  simp (disch := first | assumption | omega | (simp only [az]; done)) only [ru, eq_self, if_true, if_false, BEq.rfl, binI, AO.row?, splice, fillL, mmAll, loadV, storeV, zeros, Am.rowAt, Am.part, addOff, Nat.reduceAdd, Nat.reduceMul, Nat.reduceLeDiff, Nat.reduceSub, Nat.reduceLT, Int.reduceEq, Int.reduceLT, Int.reduceLE, Int.reduceGT, Int.reduceGE, Int.reduceAdd, Int.reduceSub, Int.reduceMul, Int.reduceNeg, Int.reduceToNat, reduceCtorEq, reduceIte, lenV_sl hv, view_sl hv, scalar_sl hv, cells_sl hv, pure_sl hv, lenV_sl V, view_sl V, scalar_sl V, cells_sl V, pure_sl V, lenV_sl N, view_sl N, scalar_sl N, cells_sl N, pure_sl N, t16 hv, hf, h40, decide_false, a18, A, lenE, setE, atE, k0, kc, vw, ne, a35, a36, a28, a27, gUn, t17]
  done
end
end Go.Proofs.Ytaeijjfgfenfhaa.S

