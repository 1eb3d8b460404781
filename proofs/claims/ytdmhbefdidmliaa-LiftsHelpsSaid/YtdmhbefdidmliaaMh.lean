/-
LiftsHelps: which boats would help.
-/
import Derived.Test.YtdmhbefdidmliaaS3
namespace Go.Proofs.Ytdmhbefdidmliaa.S
open Go Go.Am Go.Proofs.Ytdmhbefdidmliaa.T
set_option maxRecDepth 100000
set_option linter.unusedSimpArgs false
set_option linter.unusedVariables false

section
variable {s : Sea} {p b : AV} {l : List Int} {v : AV}
theorem mem_hlps {i : Nat} (hi : i < s.bo.length) : (i : Int) ∈ hlps s ↔ most s < most (strg s i) := by
  simp only [hlpU, ofN, List.mem_map, List.mem_filter, List.mem_range, decide_eq_true_eq]
  constructor
  · rintro ⟨j, ⟨h1, h2⟩, e⟩
    have : j = i := by omega
    subst this; exact h2
  · intro h; exact ⟨i, ⟨hi, h⟩, rfl⟩
theorem strg_valid (K : SeaG s) (hc : ∀ x ∈ s.bo, x.c ≤ 999) {i : Nat} (hi : i < s.bo.length) (h : (s.bo.getD i default).c ≠ 999) : (strg s i).valid = true := by
  refine good_valid (strg_good K hc hi) fun x hx => ?_
  simp only [strg] at hx
  rcases List.mem_or_eq_of_mem_set hx with h1 | h1
  · exact hc x h1
  · subst h1
    have := hc _ (getD_mem hi)
    show (s.bo.getD i default).c + 1 ≤ 999
    omega

set_option maxHeartbeats 4000000 in
theorem s11 (H0 : SeaIn s p b) (x : Int) (V : IsSl 1 intL l v) (st : Bool) : Iso E 11 [seaV s p b, I x, v] st = some (Bo true) := by
  have g0 := fun st => s16 H0 st
  refine Iso_of (es _ _ _ _) e11 ?_
  simp only [f11, seaV] at g0 ⊢
  cases hv : s.valid
  case false => simp (disch := first | assumption | omega | (simp only [az]; done)) only [ru, eq_self, if_true, if_false, BEq.rfl, binI, AO.row?, splice, fillL, mmAll, loadV, storeV, zeros, Am.rowAt, Am.part, addOff, Nat.reduceAdd, Nat.reduceMul, Nat.reduceLeDiff, Nat.reduceSub, Nat.reduceLT, Int.reduceEq, Int.reduceLT, Int.reduceLE, Int.reduceGT, Int.reduceGE, Int.reduceAdd, Int.reduceSub, Int.reduceMul, Int.reduceNeg, Int.reduceToNat, reduceCtorEq, reduceIte, lenV_sl H0.p, lenV_sl H0.b, elem_sp H0.p, elem_bt H0.b, view_sl H0.p, view_sl H0.b, scalar_sl H0.p, scalar_sl H0.b, cells_sl H0.p, cells_sl H0.b, pure_sl H0.p, pure_sl H0.b, Int.toNat_natCast, lenV_sl V, elem_in V, view_sl V, scalar_sl V, cells_sl V, pure_sl V, Int.toNat_natCast, g0, hv, gUn, s19]
  obtain ⟨K, hc⟩ := valid_good hv
  have H : SeaOk s p b := ⟨H0, by have := K.sp.le; omega, by have := K.nb; omega⟩
  have a1 := fun st => s47 H x st
  simp only [seaV] at a1
  cases hr : inR x 0 (s.bo.length - 1)
  · simp (disch := first | assumption | omega | (simp only [az]; done)) only [ru, eq_self, if_true, if_false, BEq.rfl, binI, AO.row?, splice, fillL, mmAll, loadV, storeV, zeros, Am.rowAt, Am.part, addOff, Nat.reduceAdd, Nat.reduceMul, Nat.reduceLeDiff, Nat.reduceSub, Nat.reduceLT, Int.reduceEq, Int.reduceLT, Int.reduceLE, Int.reduceGT, Int.reduceGE, Int.reduceAdd, Int.reduceSub, Int.reduceMul, Int.reduceNeg, Int.reduceToNat, reduceCtorEq, reduceIte, lenV_sl H0.p, lenV_sl H0.b, elem_sp H0.p, elem_bt H0.b, view_sl H0.p, view_sl H0.b, scalar_sl H0.p, scalar_sl H0.b, cells_sl H0.p, cells_sl H0.b, pure_sl H0.p, pure_sl H0.b, Int.toNat_natCast, lenV_sl V, elem_in V, view_sl V, scalar_sl V, cells_sl V, pure_sl V, Int.toNat_natCast, g0, hv, a1, hr, s19, gUn]
  obtain ⟨i, rfl, hi⟩ : ∃ i : Nat, x = i ∧ i < s.bo.length := by
    have := inR_iff.1 hr
    exact ⟨x.toNat, by omega, by omega⟩
  have hi' : (i : Int) < s.bo.length := by omega
  by_cases h9 : (s.bo.getD i default).c = 999
  · simp (disch := first | assumption | omega | (simp only [az]; done)) only [ru, eq_self, if_true, if_false, BEq.rfl, binI, AO.row?, splice, fillL, mmAll, loadV, storeV, zeros, Am.rowAt, Am.part, addOff, Nat.reduceAdd, Nat.reduceMul, Nat.reduceLeDiff, Nat.reduceSub, Nat.reduceLT, Int.reduceEq, Int.reduceLT, Int.reduceLE, Int.reduceGT, Int.reduceGE, Int.reduceAdd, Int.reduceSub, Int.reduceMul, Int.reduceNeg, Int.reduceToNat, reduceCtorEq, reduceIte, lenV_sl H0.p, lenV_sl H0.b, elem_sp H0.p, elem_bt H0.b, view_sl H0.p, view_sl H0.b, scalar_sl H0.p, scalar_sl H0.b, cells_sl H0.p, cells_sl H0.b, pure_sl H0.p, pure_sl H0.b, Int.toNat_natCast, lenV_sl V, elem_in V, view_sl V, scalar_sl V, cells_sl V, pure_sl V, Int.toNat_natCast, g0, hv, a1, hr, hi', h9, decide_true, s19, gUn]
  have K2 := strg_good K hc hi
  have hv2 := strg_valid K hc hi h9
  have H2 := cp_ok (strg_ok H (i := i))
  have a2 := s48 H
  have a3 := fun st => s33 H hv st
  have a4 := s41 H (fun y hy => by have := K.b y hy; omega) hi
  have a5 := fun st => s33 H2 hv2 st
  obtain ⟨k1, k2⟩ := better_strg K K2
  have sb : (strg s i).bo.length = s.bo.length := by simp [strg]
  have a6 := fun (h : ¬ (l.length : Int) > 40) st => s26 H V (by omega) st
  have a7 := fun (h : ¬ (l.length : Int) > 40) st => s28 H hv V (by omega) st
  have a8 := fun (h : ¬ (l.length : Int) > 40) st => s49 V (by omega) (i : Int) st
  have n0 : ¬ (0 : Int) > s.bo.length := by omega
  simp only [seaV, hlpR, hv, if_true, cpV] at a2 a3 a4 a5 a6 a7
  by_cases hb : s.pl.length ≤ s.bo.length
  case neg =>
    have m1 : mosv s = -1 := if_pos (by omega)
    have m2 : mosv (strg s i) = -1 := if_pos (by rw [sb]; show s.bo.length < s.pl.length; omega)
    simp only [hb, if_false, m1, m2] at a2 a3 a5
    simp (disch := first | assumption | omega | (simp only [az]; done)) only [ru, eq_self, if_true, if_false, BEq.rfl, binI, AO.row?, splice, fillL, mmAll, loadV, storeV, zeros, Am.rowAt, Am.part, addOff, Nat.reduceAdd, Nat.reduceMul, Nat.reduceLeDiff, Nat.reduceSub, Nat.reduceLT, Int.reduceEq, Int.reduceLT, Int.reduceLE, Int.reduceGT, Int.reduceGE, Int.reduceAdd, Int.reduceSub, Int.reduceMul, Int.reduceNeg, Int.reduceToNat, reduceCtorEq, reduceIte, lenV_sl H.p, lenV_sl H.b, elem_sp H.p, elem_bt H.b, view_sl H.p, view_sl H.b, scalar_sl H.p, scalar_sl H.b, cells_sl H.p, cells_sl H.b, pure_sl H.p, pure_sl H.b, Int.toNat_natCast, lenV_sl H2.p, lenV_sl H2.b, elem_sp H2.p, elem_bt H2.b, view_sl H2.p, view_sl H2.b, scalar_sl H2.p, scalar_sl H2.b, cells_sl H2.p, cells_sl H2.b, pure_sl H2.p, pure_sl H2.b, Int.toNat_natCast, lenV_sl V, elem_in V, view_sl V, scalar_sl V, cells_sl V, pure_sl V, Int.toNat_natCast, g0, hv, a1, hr, hi', h9, a2, a3, a4, a5, n0, s35, s19, gUn, decide_true, decide_false, Bool.or_true, Bool.true_or, Bool.or_false, Bool.not_true, Bool.not_false, bne_self_eq_false]
  have m1 : mosv s = most s := if_neg (by omega)
  have m2 : mosv (strg s i) = most (strg s i) := if_neg (by rw [sb]; show ¬ s.bo.length < s.pl.length; omega)
  have hm := mem_hlps hi
  have MV := resL_is (hlps s)
  have ml : (hlps s).length ≤ s.bo.length := hlpU_len
  have a9 := fun st => s49 MV (by have := K.nb; omega) (i : Int) st
  have ge : most s ≥ 0 := (most_le (s := s)).1
  have lf := fun (h : crB s l = true) => (mst_ge (f := lft s)).2 l (mem_crws.2 (crB_iff.1 h))
  rw [m1, m2] at k2
  simp only [hb, if_true, m1, m2] at a2 a3 a5
  obtain ⟨hl, hhl⟩ : ∃ hl, hl = hlps s := ⟨_, rfl⟩
  obtain ⟨hvv, hhv⟩ : ∃ hvv, hvv = resL hl := ⟨_, rfl⟩
  obtain ⟨m, hmo⟩ : ∃ m, m = most s := ⟨_, rfl⟩
  obtain ⟨n, hno⟩ : ∃ n, n = most (strg s i) := ⟨_, rfl⟩
  simp only [← hhl, ← hmo, ← hno] at a2 a3 a5 a9 MV ml hm k2 ge
  simp only [← hhv] at a2 a9 MV
  have ml' : ¬ (hl.length : Int) > s.bo.length := by omega
  have mem : decide ((i : Int) ∈ hl) = decide (n > m) := by simp only [hm]
  rw [mem] at a9
  by_cases e : n = m
  · subst e
    have nn : ¬ n > n := by omega
    simp (disch := first | assumption | omega | (simp only [az]; done)) only [ru, eq_self, if_true, if_false, BEq.rfl, binI, AO.row?, splice, fillL, mmAll, loadV, storeV, zeros, Am.rowAt, Am.part, addOff, Nat.reduceAdd, Nat.reduceMul, Nat.reduceLeDiff, Nat.reduceSub, Nat.reduceLT, Int.reduceEq, Int.reduceLT, Int.reduceLE, Int.reduceGT, Int.reduceGE, Int.reduceAdd, Int.reduceSub, Int.reduceMul, Int.reduceNeg, Int.reduceToNat, reduceCtorEq, reduceIte, lenV_sl H.p, lenV_sl H.b, elem_sp H.p, elem_bt H.b, view_sl H.p, view_sl H.b, scalar_sl H.p, scalar_sl H.b, cells_sl H.p, cells_sl H.b, pure_sl H.p, pure_sl H.b, Int.toNat_natCast, lenV_sl H2.p, lenV_sl H2.b, elem_sp H2.p, elem_bt H2.b, view_sl H2.p, view_sl H2.b, scalar_sl H2.p, scalar_sl H2.b, cells_sl H2.p, cells_sl H2.b, pure_sl H2.p, pure_sl H2.b, Int.toNat_natCast, lenV_sl V, elem_in V, view_sl V, scalar_sl V, cells_sl V, pure_sl V, Int.toNat_natCast, lenV_sl MV, elem_in MV, view_sl MV, scalar_sl MV, cells_sl MV, pure_sl MV, Int.toNat_natCast, g0, hv, a1, hr, hi', h9, a2, a3, a4, a5, a9, ge, ml', nn, s35, s19, gUn, decide_true, decide_false, Bool.or_true, Bool.true_or, Bool.or_false, Bool.not_true, Bool.not_false, bne_self_eq_false]
  have gt : n > m := by omega
  by_cases hlen : (l.length : Int) > 40
  · simp (disch := first | assumption | omega | (simp only [az]; done)) only [ru, eq_self, if_true, if_false, BEq.rfl, binI, AO.row?, splice, fillL, mmAll, loadV, storeV, zeros, Am.rowAt, Am.part, addOff, Nat.reduceAdd, Nat.reduceMul, Nat.reduceLeDiff, Nat.reduceSub, Nat.reduceLT, Int.reduceEq, Int.reduceLT, Int.reduceLE, Int.reduceGT, Int.reduceGE, Int.reduceAdd, Int.reduceSub, Int.reduceMul, Int.reduceNeg, Int.reduceToNat, reduceCtorEq, reduceIte, lenV_sl H.p, lenV_sl H.b, elem_sp H.p, elem_bt H.b, view_sl H.p, view_sl H.b, scalar_sl H.p, scalar_sl H.b, cells_sl H.p, cells_sl H.b, pure_sl H.p, pure_sl H.b, Int.toNat_natCast, lenV_sl H2.p, lenV_sl H2.b, elem_sp H2.p, elem_bt H2.b, view_sl H2.p, view_sl H2.b, scalar_sl H2.p, scalar_sl H2.b, cells_sl H2.p, cells_sl H2.b, pure_sl H2.p, pure_sl H2.b, Int.toNat_natCast, lenV_sl V, elem_in V, view_sl V, scalar_sl V, cells_sl V, pure_sl V, Int.toNat_natCast, lenV_sl MV, elem_in MV, view_sl MV, scalar_sl MV, cells_sl MV, pure_sl MV, Int.toNat_natCast, g0, hv, a1, hr, hi', h9, a2, a3, a4, a5, a9, ge, ml', gt, e, hlen, s35, s19, gUn, decide_true, decide_false, Bool.or_true, Bool.true_or, Bool.or_false, Bool.not_true, Bool.not_false, bne_self_eq_false]
  have a6' := fun st => a6 hlen st
  have a7' := fun st => a7 hlen st
  have a8' := fun st => a8 hlen st
  cases hcr : crB s l
  · simp (disch := first | assumption | omega | (simp only [az]; done)) only [ru, eq_self, if_true, if_false, BEq.rfl, binI, AO.row?, splice, fillL, mmAll, loadV, storeV, zeros, Am.rowAt, Am.part, addOff, Nat.reduceAdd, Nat.reduceMul, Nat.reduceLeDiff, Nat.reduceSub, Nat.reduceLT, Int.reduceEq, Int.reduceLT, Int.reduceLE, Int.reduceGT, Int.reduceGE, Int.reduceAdd, Int.reduceSub, Int.reduceMul, Int.reduceNeg, Int.reduceToNat, reduceCtorEq, reduceIte, lenV_sl H.p, lenV_sl H.b, elem_sp H.p, elem_bt H.b, view_sl H.p, view_sl H.b, scalar_sl H.p, scalar_sl H.b, cells_sl H.p, cells_sl H.b, pure_sl H.p, pure_sl H.b, Int.toNat_natCast, lenV_sl H2.p, lenV_sl H2.b, elem_sp H2.p, elem_bt H2.b, view_sl H2.p, view_sl H2.b, scalar_sl H2.p, scalar_sl H2.b, cells_sl H2.p, cells_sl H2.b, pure_sl H2.p, pure_sl H2.b, Int.toNat_natCast, lenV_sl V, elem_in V, view_sl V, scalar_sl V, cells_sl V, pure_sl V, Int.toNat_natCast, lenV_sl MV, elem_in MV, view_sl MV, scalar_sl MV, cells_sl MV, pure_sl MV, Int.toNat_natCast, g0, hv, a1, hr, hi', h9, a2, a3, a4, a5, a9, ge, ml', gt, e, hlen, a6', hcr, s35, s19, gUn, decide_true, decide_false, Bool.or_true, Bool.true_or, Bool.or_false, Bool.not_true, Bool.not_false, bne_self_eq_false]
  by_cases hin : (i : Int) ∈ l
  · simp (disch := first | assumption | omega | (simp only [az]; done)) only [ru, eq_self, if_true, if_false, BEq.rfl, binI, AO.row?, splice, fillL, mmAll, loadV, storeV, zeros, Am.rowAt, Am.part, addOff, Nat.reduceAdd, Nat.reduceMul, Nat.reduceLeDiff, Nat.reduceSub, Nat.reduceLT, Int.reduceEq, Int.reduceLT, Int.reduceLE, Int.reduceGT, Int.reduceGE, Int.reduceAdd, Int.reduceSub, Int.reduceMul, Int.reduceNeg, Int.reduceToNat, reduceCtorEq, reduceIte, lenV_sl H.p, lenV_sl H.b, elem_sp H.p, elem_bt H.b, view_sl H.p, view_sl H.b, scalar_sl H.p, scalar_sl H.b, cells_sl H.p, cells_sl H.b, pure_sl H.p, pure_sl H.b, Int.toNat_natCast, lenV_sl H2.p, lenV_sl H2.b, elem_sp H2.p, elem_bt H2.b, view_sl H2.p, view_sl H2.b, scalar_sl H2.p, scalar_sl H2.b, cells_sl H2.p, cells_sl H2.b, pure_sl H2.p, pure_sl H2.b, Int.toNat_natCast, lenV_sl V, elem_in V, view_sl V, scalar_sl V, cells_sl V, pure_sl V, Int.toNat_natCast, lenV_sl MV, elem_in MV, view_sl MV, scalar_sl MV, cells_sl MV, pure_sl MV, Int.toNat_natCast, g0, hv, a1, hr, hi', h9, a2, a3, a4, a5, a9, ge, ml', gt, e, hlen, a6', hcr, a8', hin, s35, s19, gUn, decide_true, decide_false, Bool.or_true, Bool.true_or, Bool.or_false, Bool.not_true, Bool.not_false, bne_self_eq_false]
  have lf' : lft s l ≤ most s := lf hcr
  have lt : canV s l < n := by rw [canV, if_pos hcr]; omega
  simp (disch := first | assumption | omega | (simp only [az]; done)) only [ru, eq_self, if_true, if_false, BEq.rfl, binI, AO.row?, splice, fillL, mmAll, loadV, storeV, zeros, Am.rowAt, Am.part, addOff, Nat.reduceAdd, Nat.reduceMul, Nat.reduceLeDiff, Nat.reduceSub, Nat.reduceLT, Int.reduceEq, Int.reduceLT, Int.reduceLE, Int.reduceGT, Int.reduceGE, Int.reduceAdd, Int.reduceSub, Int.reduceMul, Int.reduceNeg, Int.reduceToNat, reduceCtorEq, reduceIte, lenV_sl H.p, lenV_sl H.b, elem_sp H.p, elem_bt H.b, view_sl H.p, view_sl H.b, scalar_sl H.p, scalar_sl H.b, cells_sl H.p, cells_sl H.b, pure_sl H.p, pure_sl H.b, Int.toNat_natCast, lenV_sl H2.p, lenV_sl H2.b, elem_sp H2.p, elem_bt H2.b, view_sl H2.p, view_sl H2.b, scalar_sl H2.p, scalar_sl H2.b, cells_sl H2.p, cells_sl H2.b, pure_sl H2.p, pure_sl H2.b, Int.toNat_natCast, lenV_sl V, elem_in V, view_sl V, scalar_sl V, cells_sl V, pure_sl V, Int.toNat_natCast, lenV_sl MV, elem_in MV, view_sl MV, scalar_sl MV, cells_sl MV, pure_sl MV, Int.toNat_natCast, g0, hv, a1, hr, hi', h9, a2, a3, a4, a5, a9, ge, ml', gt, e, hlen, a6', hcr, a8', hin, a7', lt, s35, s19, gUn, decide_true, decide_false, Bool.or_true, Bool.true_or, Bool.or_false, Bool.not_true, Bool.not_false, bne_self_eq_false]
end
end Go.Proofs.Ytdmhbefdidmliaa.S

