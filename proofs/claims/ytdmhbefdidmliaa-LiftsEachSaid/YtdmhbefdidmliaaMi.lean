/-
LiftsEach: shares, loads and needs.
-/
import Derived.Test.YtdmhbefdidmliaaS3
namespace Go.Proofs.Ytdmhbefdidmliaa.S
open Go Go.Am Go.Proofs.Ytdmhbefdidmliaa.T
set_option maxRecDepth 100000
set_option linter.unusedSimpArgs false
set_option linter.unusedVariables false

section
variable {s : Sea} {p b : AV} {l : List Int} {v : AV}
theorem each_ok (K : SeaG s) {w : Int} {q : List Int} (w1 : s.w.lo ≤ w) (w2 : w ≤ s.w.hi) (hq : areP s.pl q = true) {i : Nat} (hi : i < q.length) :
    0 ≤ q.getD i 0 ∧ q.getD i 0 ≤ 12 ∧ inR (q.getD i 0) (shL s.pl i) (shH s.pl i) = true ∧ inR (w * q.getD i 0) (s.w.lo * shL s.pl i) (s.w.hi * shH s.pl i) = true ∧ 0 ≤ w * q.getD i 0 ∧ w * q.getD i 0 ≤ 24000 ∧ w * q.getD i 0 ≤ 12 * needv s i := by
  have hq' := areP_iff.1 hq
  have hl := InL_iff.1 hq'.1
  have hi' : i < s.pl.length := by omega
  have h1 := shr_ok hq'.1 hq'.2 hi'
  have h2 := hl.2 i hi'
  have h3 := K.sp.at hi'
  have h4 := shr_le K.sp hi'
  have w0 := K.w0; have w3 := K.w2
  have m1 := Int.mul_le_mul w1 h1.1 h4.1 (by omega)
  have m2 := Int.mul_le_mul w2 h1.2 (by omega) (by omega)
  have m0 := Int.mul_nonneg (show 0 ≤ w by omega) (show 0 ≤ q.getD i 0 by omega)
  have n1 := (need_le (s := s) (p := i) (c := needv s i)).1 (Int.le_refl _)
  have n2 := need_ok K hi'
  refine ⟨by omega, by omega, inR_iff.2 h1, inR_iff.2 ⟨m1, m2⟩, m0, by omega, by omega⟩
theorem sum_but {L : List Spn} (x : Nat) : ∀ {i : Nat}, i < L.length → slo (L.take (i + 1)) - (if x < i + 1 then (L.getD x default).lo else 0) = slo (L.take i) - (if x < i then (L.getD x default).lo else 0) + (if i = x then 0 else (L.getD i default).lo) ∧ shi (L.take (i + 1)) - (if x < i + 1 then (L.getD x default).hi else 0) = shi (L.take i) - (if x < i then (L.getD x default).hi else 0) + (if i = x then 0 else (L.getD i default).hi) := by
  intro i hi
  obtain ⟨e1, e2⟩ := slo_take hi
  rw [e1, e2]
  by_cases c : i = x
  · subst c
    rw [if_pos (by omega), if_neg (by omega), if_pos rfl, if_pos (by omega), if_neg (by omega), if_pos rfl]; omega
  · by_cases d : x < i
    · rw [if_pos (by omega), if_pos d, if_neg c, if_pos (by omega), if_pos d, if_neg c]; omega
    · rw [if_neg (by omega), if_neg d, if_neg c, if_neg (by omega), if_neg d, if_neg c]; omega

set_option maxHeartbeats 8000000 in
theorem s3 (H0 : SeaIn s p b) (w x : Int) {q : List Int} {u : AV} (U : IsSl 1 intL q u) (st : Bool) : Iso E 3 [seaV s p b, .agg [I w, I x], u] st = some (Bo true) := by
  have g0 := fun st => s16 H0 st
  refine Iso_of (es _ _ _ _) e3 ?_
  simp only [f3, seaV] at g0 ⊢
  cases hv : s.valid
  case false => simp (disch := first | assumption | omega | (simp only [az]; done)) only [ru, eq_self, if_true, if_false, BEq.rfl, binI, AO.row?, splice, fillL, mmAll, loadV, storeV, zeros, Am.rowAt, Am.part, addOff, Nat.reduceAdd, Nat.reduceMul, Nat.reduceLeDiff, Nat.reduceSub, Nat.reduceLT, Int.reduceEq, Int.reduceLT, Int.reduceLE, Int.reduceGT, Int.reduceGE, Int.reduceAdd, Int.reduceSub, Int.reduceMul, Int.reduceNeg, Int.reduceToNat, reduceCtorEq, reduceIte, lenV_sl H0.p, lenV_sl H0.b, elem_sp H0.p, elem_bt H0.b, view_sl H0.p, view_sl H0.b, scalar_sl H0.p, scalar_sl H0.b, cells_sl H0.p, cells_sl H0.b, pure_sl H0.p, pure_sl H0.b, Int.toNat_natCast, lenV_sl U, elem_in U, view_sl U, scalar_sl U, cells_sl U, pure_sl U, Int.toNat_natCast, g0, hv, gUn, s19]
  by_cases hl2 : (q.length : Int) > 40
  · simp (disch := first | assumption | omega | (simp only [az]; done)) only [ru, eq_self, if_true, if_false, BEq.rfl, binI, AO.row?, splice, fillL, mmAll, loadV, storeV, zeros, Am.rowAt, Am.part, addOff, Nat.reduceAdd, Nat.reduceMul, Nat.reduceLeDiff, Nat.reduceSub, Nat.reduceLT, Int.reduceEq, Int.reduceLT, Int.reduceLE, Int.reduceGT, Int.reduceGE, Int.reduceAdd, Int.reduceSub, Int.reduceMul, Int.reduceNeg, Int.reduceToNat, reduceCtorEq, reduceIte, lenV_sl H0.p, lenV_sl H0.b, elem_sp H0.p, elem_bt H0.b, view_sl H0.p, view_sl H0.b, scalar_sl H0.p, scalar_sl H0.b, cells_sl H0.p, cells_sl H0.b, pure_sl H0.p, pure_sl H0.b, Int.toNat_natCast, lenV_sl U, elem_in U, view_sl U, scalar_sl U, cells_sl U, pure_sl U, Int.toNat_natCast, g0, hv, hl2, decide_true, gUn, s19]
  have K := (valid_good hv).1
  have H : SeaOk s p b := ⟨H0, by have := K.sp.le; omega, by have := K.nb; omega⟩
  have sp := H.sp
  have a2 := fun st => s18 H K.sp U (by omega) st
  simp only [seaV] at a2
  cases hr : inR w s.w.lo s.w.hi
  · simp (disch := first | assumption | omega | (simp only [az]; done)) only [ru, eq_self, if_true, if_false, BEq.rfl, binI, AO.row?, splice, fillL, mmAll, loadV, storeV, zeros, Am.rowAt, Am.part, addOff, Nat.reduceAdd, Nat.reduceMul, Nat.reduceLeDiff, Nat.reduceSub, Nat.reduceLT, Int.reduceEq, Int.reduceLT, Int.reduceLE, Int.reduceGT, Int.reduceGE, Int.reduceAdd, Int.reduceSub, Int.reduceMul, Int.reduceNeg, Int.reduceToNat, reduceCtorEq, reduceIte, lenV_sl H0.p, lenV_sl H0.b, elem_sp H0.p, elem_bt H0.b, view_sl H0.p, view_sl H0.b, scalar_sl H0.p, scalar_sl H0.b, cells_sl H0.p, cells_sl H0.b, pure_sl H0.p, pure_sl H0.b, Int.toNat_natCast, lenV_sl U, elem_in U, view_sl U, scalar_sl U, cells_sl U, pure_sl U, Int.toNat_natCast, g0, hv, hl2, s17, hr, decide_false, s19, gUn]
  cases hp : areP s.pl q
  · simp (disch := first | assumption | omega | (simp only [az]; done)) only [ru, eq_self, if_true, if_false, BEq.rfl, binI, AO.row?, splice, fillL, mmAll, loadV, storeV, zeros, Am.rowAt, Am.part, addOff, Nat.reduceAdd, Nat.reduceMul, Nat.reduceLeDiff, Nat.reduceSub, Nat.reduceLT, Int.reduceEq, Int.reduceLT, Int.reduceLE, Int.reduceGT, Int.reduceGE, Int.reduceAdd, Int.reduceSub, Int.reduceMul, Int.reduceNeg, Int.reduceToNat, reduceCtorEq, reduceIte, lenV_sl H0.p, lenV_sl H0.b, elem_sp H0.p, elem_bt H0.b, view_sl H0.p, view_sl H0.b, scalar_sl H0.p, scalar_sl H0.b, cells_sl H0.p, cells_sl H0.b, pure_sl H0.p, pure_sl H0.b, Int.toNat_natCast, lenV_sl U, elem_in U, view_sl U, scalar_sl U, cells_sl U, pure_sl U, Int.toNat_natCast, g0, hv, hl2, s17, hr, a2, hp, decide_false, s19, gUn]
  have w1 := (inR_iff.1 hr).1
  have w2 := (inR_iff.1 hr).2
  have ql : q.length = s.pl.length := (InL_iff.1 (areP_iff.1 hp).1).1
  obtain ⟨cw, x0, x1, A, RD⟩ := cpyG (eb := 8) (lim := 0) (J := []) (h := [.cells [I s.w.lo, I s.w.hi, p, b] false, .cells [I w, I x] false]) U intE intSc (by omega) (by omega) (Nat.zero_le _)
  have rv := fun st => (RD []).view intE intIv (st := st) (k := 7)
  simp only [apC, apN, lenS, len0, Nat.zero_add, Nat.reduceAdd] at A rv
  have W := slV_is (esz := 1) (enc := intL) (l := q)
  have a3 := s20 H hv
  have a4 := fun st => s21 H w W (by omega) st
  have NV := resL_is (nds s)
  obtain ⟨nv, hnv⟩ : ∃ nv, nv = resL (nds s) := ⟨_, rfl⟩
  rw [← hnv] at NV
  have nl : (nds s).length = s.pl.length := rmap_len
  have b1 := fun (i : Int) st => s22 H i st
  have b2 := fun (i : Int) st => s23 H i st
  have b3 := fun (i : Int) st => s25 H i st
  simp only [seaV, holR, hv, hr, hp, if_true, ← hnv, Bool.and_self, shrR, loaR] at a3 a4 b1 b2 b3
  have eo := fun i (hi : i < q.length) => each_ok K w1 w2 hp hi
  simp (disch := first | assumption | omega | (simp only [az]; done)) only [ru, eq_self, if_true, if_false, BEq.rfl, binI, AO.row?, splice, fillL, mmAll, loadV, storeV, zeros, Am.rowAt, Am.part, addOff, Nat.reduceAdd, Nat.reduceMul, Nat.reduceLeDiff, Nat.reduceSub, Nat.reduceLT, Int.reduceEq, Int.reduceLT, Int.reduceLE, Int.reduceGT, Int.reduceGE, Int.reduceAdd, Int.reduceSub, Int.reduceMul, Int.reduceNeg, Int.reduceToNat, reduceCtorEq, reduceIte, lenV_sl H.p, lenV_sl H.b, elem_sp H.p, elem_bt H.b, view_sl H.p, view_sl H.b, scalar_sl H.p, scalar_sl H.b, cells_sl H.p, cells_sl H.b, pure_sl H.p, pure_sl H.b, Int.toNat_natCast, lenV_sl U, elem_in U, view_sl U, scalar_sl U, cells_sl U, pure_sl U, Int.toNat_natCast, g0, hv, hl2, s17, hr, a2, hp, decide_false, GO_mapp, unhN, unhC, A, rv, a3, a4, gUn, decide_true, bne_self_eq_false, Bool.not_true]
  refine G_loop_ind (fun m ts h mk => ∃ i : Nat, i ≤ q.length ∧ m = q.length - i ∧ ts.length = 200 ∧ ts.getD 2 .undef = u ∧ ts.getD 3 .undef = .ptr 0 0 ∧ ts.getD 4 .undef = .ptr 1 0 ∧ ts.getD 7 .undef = nv ∧ ts.getD 11 .undef = I i ∧ h[0]? = some (.cells [I s.w.lo, I s.w.hi, p, b] false) ∧ h[1]? = some (.cells [I w, I x] false) ∧ mk = []) ?_ _ _ _ _ ⟨0, Nat.zero_le _, rfl, rfl, rfl, rfl, rfl, rfl, rfl, rfl, rfl, rfl⟩
  rintro m ts h mk ih ⟨i, hi, rfl, hl', q2, q3, q4, q7, q11, h0, h1, rfl⟩
  rw [lit_all hl']
  have n0 := (List.getElem?_eq_some_iff.1 h0).1
  have n1 := (List.getElem?_eq_some_iff.1 h1).1
  simp only [lit0, litS, Nat.reduceAdd, q2, q3, q4, q7, q11]
  simp (disch := first | assumption | omega | (simp only [az]; done)) only [ru, eq_self, if_true, if_false, BEq.rfl, binI, AO.row?, splice, fillL, mmAll, loadV, storeV, zeros, Am.rowAt, Am.part, addOff, Nat.reduceAdd, Nat.reduceMul, Nat.reduceLeDiff, Nat.reduceSub, Nat.reduceLT, Int.reduceEq, Int.reduceLT, Int.reduceLE, Int.reduceGT, Int.reduceGE, Int.reduceAdd, Int.reduceSub, Int.reduceMul, Int.reduceNeg, Int.reduceToNat, reduceCtorEq, reduceIte, lenV_sl U, elem_in U, view_sl U, scalar_sl U, cells_sl U, pure_sl U, Int.toNat_natCast]
  by_cases hlt : (i : Int) < q.length
  case pos =>
    obtain ⟨t1, t2, t3, t4, t5, t6, t7⟩ := eo i (by omega)
    have ir : inR (i : Int) 0 (s.pl.length - 1) = true := inR_iff.2 (by omega)
    have c1 := fun st => b1 (i : Int) st
    have c2 := fun st => b2 (i : Int) st
    simp only [ir, if_true, Int.toNat_natCast] at c1 c2
    have hlt2 : (i : Int) < (nds s).length := by omega
    have ei : (nds s).getD i 0 = needv s i := rmap_at (by omega)
    have t8 : ¬ w * q.getD i 0 > 12 * needv s i := by omega
    have nn := need_ok K (p := i) (by omega)
    simp (disch := first | assumption | omega | (simp only [az]; done)) only [ru, eq_self, if_true, if_false, BEq.rfl, binI, AO.row?, splice, fillL, mmAll, loadV, storeV, zeros, Am.rowAt, Am.part, addOff, Nat.reduceAdd, Nat.reduceMul, Nat.reduceLeDiff, Nat.reduceSub, Nat.reduceLT, Int.reduceEq, Int.reduceLT, Int.reduceLE, Int.reduceGT, Int.reduceGE, Int.reduceAdd, Int.reduceSub, Int.reduceMul, Int.reduceNeg, Int.reduceToNat, reduceCtorEq, reduceIte, lenV_sl H.p, lenV_sl H.b, elem_sp H.p, elem_bt H.b, view_sl H.p, view_sl H.b, scalar_sl H.p, scalar_sl H.b, cells_sl H.p, cells_sl H.b, pure_sl H.p, pure_sl H.b, Int.toNat_natCast, lenV_sl U, elem_in U, view_sl U, scalar_sl U, cells_sl U, pure_sl U, Int.toNat_natCast, lenV_sl NV, elem_in NV, view_sl NV, scalar_sl NV, cells_sl NV, pure_sl NV, Int.toNat_natCast, hlt, hlt2, c1, c2, List.append_assoc, lenE, setT, setT0, atT, atT0, Nat.add_assoc, at_ap, n0, n1, h0, h1, s24, t3, t4, t8, ei, gUn, decide_true, decide_false, Bool.not_true, bne_self_eq_false]
    exact ih (q.length - (i + 1)) _ _ _ (by omega) ⟨i + 1, by omega, rfl, rfl, rfl, rfl, rfl, rfl, rfl, by rw [at_ap n0]; exact h0, by rw [at_ap n1]; exact h1, rfl⟩
  clear ih
  cases rx : inR x 0 (s.pl.length - 1)
  · simp (disch := first | assumption | omega | (simp only [az]; done)) only [ru, eq_self, if_true, if_false, BEq.rfl, binI, AO.row?, splice, fillL, mmAll, loadV, storeV, zeros, Am.rowAt, Am.part, addOff, Nat.reduceAdd, Nat.reduceMul, Nat.reduceLeDiff, Nat.reduceSub, Nat.reduceLT, Int.reduceEq, Int.reduceLT, Int.reduceLE, Int.reduceGT, Int.reduceGE, Int.reduceAdd, Int.reduceSub, Int.reduceMul, Int.reduceNeg, Int.reduceToNat, reduceCtorEq, reduceIte, lenV_sl H.p, lenV_sl H.b, elem_sp H.p, elem_bt H.b, view_sl H.p, view_sl H.b, scalar_sl H.p, scalar_sl H.b, cells_sl H.p, cells_sl H.b, pure_sl H.p, pure_sl H.b, Int.toNat_natCast, lenV_sl U, elem_in U, view_sl U, scalar_sl U, cells_sl U, pure_sl U, Int.toNat_natCast, hlt, h0, h1, b3, rx, s19, Bool.not_false]
  obtain ⟨k, rfl, hk⟩ : ∃ k : Nat, x = k ∧ k < s.pl.length := by
    have := inR_iff.1 rx
    exact ⟨x.toNat, by omega, by omega⟩
  have c1 := fun st => b1 (k : Int) st
  simp only [rx, if_true, Int.toNat_natCast] at c1
  obtain ⟨H2, hH2⟩ : ∃ H2, H2 = h ++ [AO.cells [I (shL s.pl k), I (shH s.pl k)] false] := ⟨_, rfl⟩
  have k0 : H2[0]? = some (.cells [I s.w.lo, I s.w.hi, p, b] false) := by rw [hH2, at_ap n0]; exact h0
  have k1 : H2[1]? = some (.cells [I w, I k] false) := by rw [hH2, at_ap n1]; exact h1
  have k2 : H2[h.length]? = some (.cells [I (shL s.pl k), I (shH s.pl k)] false) := by rw [hH2]; exact atE
  have n2 := (List.getElem?_eq_some_iff.1 k2).1
  have m0 := (List.getElem?_eq_some_iff.1 k0).1
  have m1 := (List.getElem?_eq_some_iff.1 k1).1
  obtain ⟨o, ho⟩ : ∃ o, o = h.length := ⟨_, rfl⟩
  simp (disch := first | assumption | omega | (simp only [az]; done)) only [ru, eq_self, if_true, if_false, BEq.rfl, binI, AO.row?, splice, fillL, mmAll, loadV, storeV, zeros, Am.rowAt, Am.part, addOff, Nat.reduceAdd, Nat.reduceMul, Nat.reduceLeDiff, Nat.reduceSub, Nat.reduceLT, Int.reduceEq, Int.reduceLT, Int.reduceLE, Int.reduceGT, Int.reduceGE, Int.reduceAdd, Int.reduceSub, Int.reduceMul, Int.reduceNeg, Int.reduceToNat, reduceCtorEq, reduceIte, lenV_sl H.p, lenV_sl H.b, elem_sp H.p, elem_bt H.b, view_sl H.p, view_sl H.b, scalar_sl H.p, scalar_sl H.b, cells_sl H.p, cells_sl H.b, pure_sl H.p, pure_sl H.b, Int.toNat_natCast, lenV_sl U, elem_in U, view_sl U, scalar_sl U, cells_sl U, pure_sl U, Int.toNat_natCast, hlt, h0, h1, b3, rx, Bool.not_true, c1, atE, setE, ← hH2]
  rw [← ho] at k2 n2 ⊢
  clear hl' q2 q3 q4 q7 q11 hlt hi
  refine G_loop_ind (fun m ts h mk => ∃ j : Nat, j ≤ s.pl.length ∧ m = s.pl.length - j ∧ ∃ y z : Int, (y = slo (s.pl.take j) - (if k < j then (s.pl.getD k default).lo else 0) ∧ 0 ≤ y ∧ y ≤ 12 * j) ∧ (z = shi (s.pl.take j) - (if k < j then (s.pl.getD k default).hi else 0) ∧ 0 ≤ z ∧ z ≤ 12 * j) ∧ ts.length = 200 ∧ ts.getD 3 .undef = .ptr 0 0 ∧ ts.getD 4 .undef = .ptr 1 0 ∧ ts.getD 10 .undef = I 0 ∧ ts.getD 17 .undef = .ptr o 0 ∧ ts.getD 18 .undef = I y ∧ ts.getD 19 .undef = I z ∧ ts.getD 20 .undef = I j ∧ h = H2 ∧ mk = []) ?_ _ _ _ _ ⟨0, Nat.zero_le _, rfl, 0, 0, ⟨by simp [slo, sm], by omega, by omega⟩, ⟨by simp [shi, sm], by omega, by omega⟩, rfl, rfl, rfl, rfl, rfl, rfl, rfl, rfl, rfl, rfl⟩
  rintro m ts h' mk ih ⟨j, hj, rfl, y, z, ⟨ey, y0, y1⟩, ⟨ez, z0, z1⟩, hl', q3, q4, q10, q17, q18, q19, q20, rfl, rfl⟩
  rw [lit_all hl']
  simp only [lit0, litS, Nat.reduceAdd, q3, q4, q10, q17, q18, q19, q20]
  simp (disch := first | assumption | omega | (simp only [az]; done)) only [ru, eq_self, if_true, if_false, BEq.rfl, binI, AO.row?, splice, fillL, mmAll, loadV, storeV, zeros, Am.rowAt, Am.part, addOff, Nat.reduceAdd, Nat.reduceMul, Nat.reduceLeDiff, Nat.reduceSub, Nat.reduceLT, Int.reduceEq, Int.reduceLT, Int.reduceLE, Int.reduceGT, Int.reduceGE, Int.reduceAdd, Int.reduceSub, Int.reduceMul, Int.reduceNeg, Int.reduceToNat, reduceCtorEq, reduceIte, lenV_sl H.p, lenV_sl H.b, elem_sp H.p, elem_bt H.b, view_sl H.p, view_sl H.b, scalar_sl H.p, scalar_sl H.b, cells_sl H.p, cells_sl H.b, pure_sl H.p, pure_sl H.b, Int.toNat_natCast, k0]
  by_cases hlt : (j : Int) < s.pl.length
  case pos =>
    have hj' : j < s.pl.length := by omega
    obtain ⟨e1, e2⟩ := sum_but (L := s.pl) k hj'
    have h3 := K.sp.at hj'
    by_cases hjk : (j : Int) = k
    · have hjk' : j = k := by omega
      rw [if_pos hjk'] at e1 e2
      subst hjk'
      simp (disch := first | assumption | omega | (simp only [az]; done)) only [ru, eq_self, if_true, if_false, BEq.rfl, binI, AO.row?, splice, fillL, mmAll, loadV, storeV, zeros, Am.rowAt, Am.part, addOff, Nat.reduceAdd, Nat.reduceMul, Nat.reduceLeDiff, Nat.reduceSub, Nat.reduceLT, Int.reduceEq, Int.reduceLT, Int.reduceLE, Int.reduceGT, Int.reduceGE, Int.reduceAdd, Int.reduceSub, Int.reduceMul, Int.reduceNeg, Int.reduceToNat, reduceCtorEq, reduceIte, lenV_sl H.p, lenV_sl H.b, elem_sp H.p, elem_bt H.b, view_sl H.p, view_sl H.b, scalar_sl H.p, scalar_sl H.b, cells_sl H.p, cells_sl H.b, pure_sl H.p, pure_sl H.b, Int.toNat_natCast, k0, k1, hlt, decide_true, Bool.not_true]
      exact ih (s.pl.length - (j + 1)) _ _ _ (by omega) ⟨j + 1, by omega, rfl, y, z, ⟨by omega, by omega, by omega⟩, ⟨by omega, by omega, by omega⟩, rfl, rfl, rfl, rfl, rfl, rfl, rfl, rfl, rfl, rfl⟩
    · have hjk' : ¬ j = k := by omega
      rw [if_neg hjk'] at e1 e2
      simp (disch := first | assumption | omega | (simp only [az]; done)) only [ru, eq_self, if_true, if_false, BEq.rfl, binI, AO.row?, splice, fillL, mmAll, loadV, storeV, zeros, Am.rowAt, Am.part, addOff, Nat.reduceAdd, Nat.reduceMul, Nat.reduceLeDiff, Nat.reduceSub, Nat.reduceLT, Int.reduceEq, Int.reduceLT, Int.reduceLE, Int.reduceGT, Int.reduceGE, Int.reduceAdd, Int.reduceSub, Int.reduceMul, Int.reduceNeg, Int.reduceToNat, reduceCtorEq, reduceIte, lenV_sl H.p, lenV_sl H.b, elem_sp H.p, elem_bt H.b, view_sl H.p, view_sl H.b, scalar_sl H.p, scalar_sl H.b, cells_sl H.p, cells_sl H.b, pure_sl H.p, pure_sl H.b, Int.toNat_natCast, k0, k1, hlt, hjk, decide_false, Bool.not_false]
      exact ih (s.pl.length - (j + 1)) _ _ _ (by omega) ⟨j + 1, by omega, rfl, y + (s.pl.getD j default).lo, z + (s.pl.getD j default).hi, ⟨by omega, by omega, by omega⟩, ⟨by omega, by omega, by omega⟩, rfl, rfl, rfl, rfl, rfl, rfl, rfl, rfl, rfl, rfl⟩
  obtain rfl : j = s.pl.length := by omega
  rw [List.take_length, if_pos hk] at ey ez
  have hk' : (k : Int) < s.pl.length := by omega
  have eL : shL s.pl k = mx (s.pl.getD k default).lo (12 - z) := by rw [ez]; rfl
  have eH : shH s.pl k = mn (s.pl.getD k default).hi (12 - y) := by rw [ey]; rfl
  have eL2 : mmx true (s.pl.getD k default).lo (12 - z) = mx (s.pl.getD k default).lo (12 - z) := rfl
  have eH2 : mmx false (s.pl.getD k default).hi (12 - y) = mn (s.pl.getD k default).hi (12 - y) := rfl
  simp (disch := first | assumption | omega | (simp only [az]; done)) only [ru, eq_self, if_true, if_false, BEq.rfl, binI, AO.row?, splice, fillL, mmAll, loadV, storeV, zeros, Am.rowAt, Am.part, addOff, Nat.reduceAdd, Nat.reduceMul, Nat.reduceLeDiff, Nat.reduceSub, Nat.reduceLT, Int.reduceEq, Int.reduceLT, Int.reduceLE, Int.reduceGT, Int.reduceGE, Int.reduceAdd, Int.reduceSub, Int.reduceMul, Int.reduceNeg, Int.reduceToNat, reduceCtorEq, reduceIte, lenV_sl H.p, lenV_sl H.b, elem_sp H.p, elem_bt H.b, view_sl H.p, view_sl H.b, scalar_sl H.p, scalar_sl H.b, cells_sl H.p, cells_sl H.b, pure_sl H.p, pure_sl H.b, Int.toNat_natCast, k0, k1, k2, hlt, hk', at_ap, m0, m1, n2, atE, setE, eL, eH, eL2, eH2, s19, decide_true, bne_self_eq_false]
end
end Go.Proofs.Ytdmhbefdidmliaa.S

