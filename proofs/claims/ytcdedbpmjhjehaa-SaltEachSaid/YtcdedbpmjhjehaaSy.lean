/-
SaltEach.
-/
import Derived.Test.YtcdedbpmjhjehaaSw
namespace Go.Proofs.Ytcdedbpmjhjehaa.S
open Go Go.Am Go.Proofs.Ytcdedbpmjhjehaa.T
set_option maxRecDepth 100000
set_option linter.unusedSimpArgs false
set_option linter.unusedVariables false

theorem idx_mem {f : Nat → Bool} {n : Nat} {c : Int} : c ∈ idx f n ↔ ∃ j : Nat, j < n ∧ f j = true ∧ c = j := by
  simp only [idx, List.mem_map, List.mem_filter, List.mem_range]
  exact ⟨fun ⟨j, ⟨h1, h2⟩, h3⟩ => ⟨j, h1, h2, h3.symm⟩, fun ⟨j, h1, h2, h3⟩ => ⟨j, ⟨h1, h2⟩, h3.symm⟩⟩
theorem idx_pair {f : Nat → Bool} {n : Nat} : (idx f n).Pairwise (· < ·) := by
  unfold idx
  rw [List.pairwise_map]
  exact (List.Pairwise.filter _ List.pairwise_lt_range).imp fun h => by omega
theorem idx_ris {f : Nat → Bool} {n : Nat} : risB (idx f n) 0 ((n : Int) - 1) = true := by
  unfold risB
  rw [List.all_eq_true]
  intro i hi
  have hi := List.mem_range.1 hi
  have hm : (idx f n).getD i 0 ∈ idx f n := getD_memI hi
  obtain ⟨j, h1, _, h3⟩ := idx_mem.1 hm
  rw [Bool.and_eq_true]
  refine ⟨inR_iff.2 (by omega), ?_⟩
  by_cases h0 : i = 0
  · simp [h0]
  · rw [decide_eq_false h0, Bool.false_or, decide_eq_true_eq]
    have := List.pairwise_iff_getElem.1 (idx_pair (f := f) (n := n)) (i - 1) i (by omega) hi (by omega)
    rw [List.getD_eq_getElem?_getD, List.getD_eq_getElem?_getD, List.getElem?_eq_getElem hi, List.getElem?_eq_getElem (by omega : i - 1 < (idx f n).length)]
    exact this
theorem idx_in {f : Nat → Bool} {n j : Nat} (hj : j < n) (hf : f j = true) : (j : Int) ∈ idx f n := idx_mem.2 ⟨j, hj, hf, rfl⟩
section
variable {h : Hs} {k p b : AV}
set_option maxHeartbeats 16000000 in
theorem s7 (H0 : HsIn h k p b) {x : List Int} {v : AV} (V : IsSl 1 intL x v) (d : Int) : Iso E 7 [hsV h.fl k p b, v, I d] false = some (Bo true) := by
  have a0 := fun st => s46 H0 st
  simp only [hsV] at a0
  refine Iso_of (es _ _ _ _) e7 ?_
  simp only [f7, hsV]
  cases hr : h.rdy
  · simp (disch := first | assumption | omega | (simp only [az]; done)) only [ru, eq_self, if_true, if_false, BEq.rfl, binI, AO.row?, splice, fillL, mmAll, loadV, storeV, zeros, Am.rowAt, Am.part, addOff, Nat.reduceAdd, Nat.reduceMul, Nat.reduceLeDiff, Nat.reduceSub, Nat.reduceLT, Int.reduceEq, Int.reduceLT, Int.reduceLE, Int.reduceGT, Int.reduceGE, Int.reduceAdd, Int.reduceSub, Int.reduceMul, Int.reduceNeg, Int.reduceToNat, reduceCtorEq, reduceIte, lenV_sl H0.k, lenV_sl H0.p, lenV_sl H0.b, elem_kd H0.k, elem_pr H0.p, elem_in H0.b, view_sl H0.k, view_sl H0.p, view_sl H0.b, scalar_sl H0.k, scalar_sl H0.p, scalar_sl H0.b, cells_sl H0.k, cells_sl H0.p, cells_sl H0.b, pure_sl H0.k, pure_sl H0.p, pure_sl H0.b, Int.toNat_natCast, lenV_sl V, elem_in V, view_sl V, scalar_sl V, cells_sl V, pure_sl V, Int.toNat_natCast, a0, hr, s16, gUn, Bool.not_false]
  by_cases hl : (x.length : Int) > 40
  · simp (disch := first | assumption | omega | (simp only [az]; done)) only [ru, eq_self, if_true, if_false, BEq.rfl, binI, AO.row?, splice, fillL, mmAll, loadV, storeV, zeros, Am.rowAt, Am.part, addOff, Nat.reduceAdd, Nat.reduceMul, Nat.reduceLeDiff, Nat.reduceSub, Nat.reduceLT, Int.reduceEq, Int.reduceLT, Int.reduceLE, Int.reduceGT, Int.reduceGE, Int.reduceAdd, Int.reduceSub, Int.reduceMul, Int.reduceNeg, Int.reduceToNat, reduceCtorEq, reduceIte, lenV_sl H0.k, lenV_sl H0.p, lenV_sl H0.b, elem_kd H0.k, elem_pr H0.p, elem_in H0.b, view_sl H0.k, view_sl H0.p, view_sl H0.b, scalar_sl H0.k, scalar_sl H0.p, scalar_sl H0.b, cells_sl H0.k, cells_sl H0.p, cells_sl H0.b, pure_sl H0.k, pure_sl H0.p, pure_sl H0.b, Int.toNat_natCast, lenV_sl V, elem_in V, view_sl V, scalar_sl V, cells_sl V, pure_sl V, Int.toNat_natCast, a0, hr, hl, s16, gUn, Bool.not_true, Bool.not_false, decide_true]
    done
  have H := rdy_ok H0 hr
  have G := (rdy_iff.1 hr).1
  have np := G.np; have nb := G.nb
  have l1 : x.length ≤ 1000 := by omega
  have a47 := fun st => s47 H G V l1 st
  simp only [hsV] at a47
  cases hp : h.isP x
  · simp (disch := first | assumption | omega | (simp only [az]; done)) only [ru, eq_self, if_true, if_false, BEq.rfl, binI, AO.row?, splice, fillL, mmAll, loadV, storeV, zeros, Am.rowAt, Am.part, addOff, Nat.reduceAdd, Nat.reduceMul, Nat.reduceLeDiff, Nat.reduceSub, Nat.reduceLT, Int.reduceEq, Int.reduceLT, Int.reduceLE, Int.reduceGT, Int.reduceGE, Int.reduceAdd, Int.reduceSub, Int.reduceMul, Int.reduceNeg, Int.reduceToNat, reduceCtorEq, reduceIte, lenV_sl H0.k, lenV_sl H0.p, lenV_sl H0.b, elem_kd H0.k, elem_pr H0.p, elem_in H0.b, view_sl H0.k, view_sl H0.p, view_sl H0.b, scalar_sl H0.k, scalar_sl H0.p, scalar_sl H0.b, cells_sl H0.k, cells_sl H0.p, cells_sl H0.b, pure_sl H0.k, pure_sl H0.p, pure_sl H0.b, Int.toNat_natCast, lenV_sl V, elem_in V, view_sl V, scalar_sl V, cells_sl V, pure_sl V, Int.toNat_natCast, a0, hr, hl, a47, hp, s16, gUn, Bool.not_true, Bool.not_false, decide_false]
  cases hd : inR d 0 20
  · simp (disch := first | assumption | omega | (simp only [az]; done)) only [ru, eq_self, if_true, if_false, BEq.rfl, binI, AO.row?, splice, fillL, mmAll, loadV, storeV, zeros, Am.rowAt, Am.part, addOff, Nat.reduceAdd, Nat.reduceMul, Nat.reduceLeDiff, Nat.reduceSub, Nat.reduceLT, Int.reduceEq, Int.reduceLT, Int.reduceLE, Int.reduceGT, Int.reduceGE, Int.reduceAdd, Int.reduceSub, Int.reduceMul, Int.reduceNeg, Int.reduceToNat, reduceCtorEq, reduceIte, lenV_sl H0.k, lenV_sl H0.p, lenV_sl H0.b, elem_kd H0.k, elem_pr H0.p, elem_in H0.b, view_sl H0.k, view_sl H0.p, view_sl H0.b, scalar_sl H0.k, scalar_sl H0.p, scalar_sl H0.b, cells_sl H0.k, cells_sl H0.p, cells_sl H0.b, pure_sl H0.k, pure_sl H0.p, pure_sl H0.b, Int.toNat_natCast, lenV_sl V, elem_in V, view_sl V, scalar_sl V, cells_sl V, pure_sl V, Int.toNat_natCast, a0, hr, hl, a47, hp, s48, hd, s16, gUn, Bool.not_true, Bool.not_false, decide_false]
  have P := isP_iff.1 hp
  have xm := G.mem_pk.2 P
  have hne : h.pk ≠ [] := fun e => by rw [e] at xm; cases xm
  have hv := valid_iff.2 G
  have xl : x.length ≤ h.ps.length := by rw [P.l]; exact Nat.le_refl _
  obtain ⟨x0, hx0, m0, k0⟩ := bsf_some (f := h.sa) hne
  have P0 := G.mem_pk.1 m0
  have p0 := isP_iff.2 P0
  obtain ⟨u, hu⟩ : ∃ u, u = slV 1 intL x0 := ⟨_, rfl⟩
  have U : IsSl 1 intL x0 u := by rw [hu]; exact slV_is
  obtain ⟨w, hw⟩ : ∃ w, w = resL h.spr := ⟨_, rfl⟩
  have W : IsSl 1 intL h.spr w := by rw [hw]; exact resL_is _
  have wl : h.spr.length ≤ 4 := Nat.le_trans idx_len nb
  have z1 : decide (h.pk ≠ []) = true := decide_eq_true hne
  have a49 := fun st => s49 H G st
  have a32 := s32 H
  have a40 := fun st => s40 H st
  have a38 := fun st => s38 H d st
  have c47 := fun st => s47 H G U (by have := P0.l; omega) st
  have c50 := fun st => s50 H G U (by rw [P0.l]; exact Nat.le_refl _) st
  have a50 := fun st => s50 H G V xl st
  have a51 := fun st => s51 H G V xl st
  have a52 := fun st => s52 H G V xl d st
  have a53 := fun st => s53 H G st
  have a54 := fun st => s54 W (by omega) 0 ((h.bs.length : Int) - 1) st
  rw [show risB h.spr 0 ((h.bs.length : Int) - 1) = true from idx_ris] at a54
  have a55 := fun n st => s55 W (by omega) n st
  have eM : lsf h.sa h.pk = h.sa x0 := by unfold lsf; rw [hx0]
  have zt : ∀ v : Int, (if (0 : Int) = 0 then v else 0) = v := fun v => rfl
  simp only [hsV, ansN, ansL, askE, hv, hd, hne, z1, hx0, Option.getD_some, eM, p0, if_true, if_false, zt, ← hu, ← hw] at a49 a32 a40 a38 c47 c50 a50 a51 a52 a53
  have k1 := k0 x xm
  have k2 := (lsf_spec (f := h.us) hne).2 x xm
  have k3 := (mst_ge (f := h.ea d) (l := h.pk)).2 x xm
  have k4 : mst (h.ea d) h.pk ≤ h.all := by
    have := mst_mono (L := h.pk) fun c _ => ea_mono G (inR_iff.1 hd).2 c
    rw [mst_const (all_nonneg G) hne fun c hc => ea_all G (G.mem_pk.1 hc)] at this
    exact this
  have eS : h.sa x = sums h.bs.length fun c => slP h.ks h.fl (prs h.ps x c) := rfl
  have eA : h.all = sums h.bs.length fun c => lbP (prs h.ps x c) := by rw [sums_lb xl P.c, P.l, List.take_length]; rfl
  obtain ⟨M, hM⟩ : ∃ M, M = h.sa x0 := ⟨_, rfl⟩
  obtain ⟨N, hN⟩ : ∃ N, N = lsf h.us h.pk := ⟨_, rfl⟩
  obtain ⟨D, hD⟩ : ∃ D, D = mst (h.ea d) h.pk := ⟨_, rfl⟩
  obtain ⟨A, hA⟩ : ∃ A, A = h.all := ⟨_, rfl⟩
  obtain ⟨S, hS⟩ : ∃ S, S = h.sa x := ⟨_, rfl⟩
  obtain ⟨T, hT⟩ : ∃ T, T = h.us x := ⟨_, rfl⟩
  obtain ⟨R, hR⟩ : ∃ R, R = h.ea d x := ⟨_, rfl⟩
  rw [← hM, ← hS] at k1
  rw [← hN, ← hT] at k2
  rw [← hD, ← hR] at k3
  rw [← hD, ← hA] at k4
  rw [← hM, ← hN] at a49
  rw [← hD] at a38
  rw [← hM] at c50
  rw [← hS] at a50 eS
  rw [← hT] at a51
  rw [← hR] at a52
  rw [← hA] at a53 eA
  have n1 : ¬ S < M := by omega
  have n2 : ¬ T < N := by omega
  have n3 : ¬ D < R := by omega
  have n4 : ¬ D > A := by omega
  simp (disch := first | assumption | omega | (simp only [az]; done)) only [ru, eq_self, if_true, if_false, BEq.rfl, binI, AO.row?, splice, fillL, mmAll, loadV, storeV, zeros, Am.rowAt, Am.part, addOff, Nat.reduceAdd, Nat.reduceMul, Nat.reduceLeDiff, Nat.reduceSub, Nat.reduceLT, Int.reduceEq, Int.reduceLT, Int.reduceLE, Int.reduceGT, Int.reduceGE, Int.reduceAdd, Int.reduceSub, Int.reduceMul, Int.reduceNeg, Int.reduceToNat, reduceCtorEq, reduceIte, lenV_sl H.k, lenV_sl H.p, lenV_sl H.b, elem_kd H.k, elem_pr H.p, elem_in H.b, view_sl H.k, view_sl H.p, view_sl H.b, scalar_sl H.k, scalar_sl H.p, scalar_sl H.b, cells_sl H.k, cells_sl H.p, cells_sl H.b, pure_sl H.k, pure_sl H.p, pure_sl H.b, Int.toNat_natCast, lenV_sl V, elem_in V, view_sl V, scalar_sl V, cells_sl V, pure_sl V, Int.toNat_natCast, lenV_sl U, elem_in U, view_sl U, scalar_sl U, cells_sl U, pure_sl U, Int.toNat_natCast, lenV_sl W, elem_in W, view_sl W, scalar_sl W, cells_sl W, pure_sl W, Int.toNat_natCast, a0, hr, hl, a47, hp, s48, hd, a49, a32, a40, a38, c47, c50, a50, a51, a52, a53, a54, n1, n2, n3, n4, s16, gUn, Bool.not_true, Bool.not_false, decide_true, decide_false]
  refine G_loop_ind (fun m ts hh mk => ∃ i : Nat, i ≤ x.length ∧ m = x.length - i ∧ ts.length = 250 ∧ ts.getD 1 .undef = v ∧ ts.getD 3 .undef = .ptr 0 0 ∧ ts.getD 13 .undef = w ∧ ts.getD 17 .undef = I i ∧ hh = [HHC h k p b] ∧ mk = []) ?_ _ _ _ _ ⟨0, Nat.zero_le _, rfl, rfl, rfl, rfl, rfl, rfl, rfl, rfl⟩
  rintro m ts hh mk ih ⟨i, hi', rfl, hl', q1, q3, q13, q17, rfl, rfl⟩
  rw [lit_all hl']
  simp only [lit0, litS, Nat.reduceAdd, q1, q3, q13, q17]
  simp (disch := first | assumption | omega | (simp only [az]; done)) only [ru, eq_self, if_true, if_false, BEq.rfl, binI, AO.row?, splice, fillL, mmAll, loadV, storeV, zeros, Am.rowAt, Am.part, addOff, Nat.reduceAdd, Nat.reduceMul, Nat.reduceLeDiff, Nat.reduceSub, Nat.reduceLT, Int.reduceEq, Int.reduceLT, Int.reduceLE, Int.reduceGT, Int.reduceGE, Int.reduceAdd, Int.reduceSub, Int.reduceMul, Int.reduceNeg, Int.reduceToNat, reduceCtorEq, reduceIte, lenV_sl H.k, lenV_sl H.p, lenV_sl H.b, elem_kd H.k, elem_pr H.p, elem_in H.b, view_sl H.k, view_sl H.p, view_sl H.b, scalar_sl H.k, scalar_sl H.p, scalar_sl H.b, cells_sl H.k, cells_sl H.p, cells_sl H.b, pure_sl H.k, pure_sl H.p, pure_sl H.b, Int.toNat_natCast, lenV_sl V, elem_in V, view_sl V, scalar_sl V, cells_sl V, pure_sl V, Int.toNat_natCast]
  by_cases hlt : (i : Int) < x.length
  case pos =>
    have hi2 : i < x.length := by omega
    have ii : inR (i : Int) 0 (h.ps.length - 1) = true := inR_iff.2 (by have := P.l; omega)
    have a36 := fun st => s36 H (i : Int) st
    obtain ⟨wi, hwi⟩ : ∃ w, w = resL (h.whr i) := ⟨_, rfl⟩
    have WI : IsSl 1 intL (h.whr i) wi := by rw [hwi]; exact resL_is _
    have wil : (h.whr i).length ≤ 4 := Nat.le_trans idx_len nb
    have b54 := fun st => s54 WI (by omega) 0 ((h.bs.length : Int) - 1) st
    rw [show risB (h.whr i) 0 ((h.bs.length : Int) - 1) = true from idx_ris] at b54
    simp only [hsV, ansL, askE, hv, ii, hne, Int.toNat_natCast, if_true, if_false, ← hwi] at a36
    have hx := P.c _ (getD_memI hi2)
    obtain ⟨c, hc⟩ : ∃ c : Nat, x.getD i 0 = c := ⟨(x.getD i 0).toNat, by omega⟩
    have b55 := fun st => s55 WI (by omega) (c : Int) st
    have mw : (c : Int) ∈ h.whr i := idx_in (by omega) (List.any_eq_true.2 ⟨x, xm, decide_eq_true hc⟩)
    rw [decide_eq_true mw] at b55
    simp (disch := first | assumption | omega | (simp only [az]; done)) only [ru, eq_self, if_true, if_false, BEq.rfl, binI, AO.row?, splice, fillL, mmAll, loadV, storeV, zeros, Am.rowAt, Am.part, addOff, Nat.reduceAdd, Nat.reduceMul, Nat.reduceLeDiff, Nat.reduceSub, Nat.reduceLT, Int.reduceEq, Int.reduceLT, Int.reduceLE, Int.reduceGT, Int.reduceGE, Int.reduceAdd, Int.reduceSub, Int.reduceMul, Int.reduceNeg, Int.reduceToNat, reduceCtorEq, reduceIte, lenV_sl H.k, lenV_sl H.p, lenV_sl H.b, elem_kd H.k, elem_pr H.p, elem_in H.b, view_sl H.k, view_sl H.p, view_sl H.b, scalar_sl H.k, scalar_sl H.p, scalar_sl H.b, cells_sl H.k, cells_sl H.p, cells_sl H.b, pure_sl H.k, pure_sl H.p, pure_sl H.b, Int.toNat_natCast, lenV_sl V, elem_in V, view_sl V, scalar_sl V, cells_sl V, pure_sl V, Int.toNat_natCast, lenV_sl WI, elem_in WI, view_sl WI, scalar_sl WI, cells_sl WI, pure_sl WI, Int.toNat_natCast, hlt, a36, b54, b55, hc, gUn, Bool.not_true]
    exact ih (x.length - (i + 1)) _ _ _ (by omega) ⟨i + 1, by omega, rfl, rfl, rfl, rfl, rfl, rfl, rfl, rfl⟩
  clear ih
  have cp := fun st => s18 V l1 st
  obtain ⟨v', hv'⟩ : ∃ v', v' = slV 1 intL x := ⟨_, rfl⟩
  have V' : IsSl 1 intL x v' := by rw [hv']; exact slV_is
  rw [← hv'] at cp
  simp (disch := first | assumption | omega | (simp only [az]; done)) only [ru, eq_self, if_true, if_false, BEq.rfl, binI, AO.row?, splice, fillL, mmAll, loadV, storeV, zeros, Am.rowAt, Am.part, addOff, Nat.reduceAdd, Nat.reduceMul, Nat.reduceLeDiff, Nat.reduceSub, Nat.reduceLT, Int.reduceEq, Int.reduceLT, Int.reduceLE, Int.reduceGT, Int.reduceGE, Int.reduceAdd, Int.reduceSub, Int.reduceMul, Int.reduceNeg, Int.reduceToNat, reduceCtorEq, reduceIte, hlt]
  clear hl' q1 q3 q13 q17 hlt
  refine G_loop_ind (fun m ts hh mk => ∃ j : Nat, j ≤ h.bs.length ∧ m = h.bs.length - j ∧ ts.length = 250 ∧ ts.getD 1 .undef = v ∧ ts.getD 3 .undef = .ptr 0 0 ∧ ts.getD 13 .undef = w ∧ ts.getD 20 .undef = I (sums j fun c => slP h.ks h.fl (prs h.ps x c)) ∧ ts.getD 21 .undef = I (sums j fun c => lbP (prs h.ps x c)) ∧ ts.getD 22 .undef = I j ∧ hh = [HHC h k p b] ∧ mk = []) ?_ _ _ _ _ ⟨0, Nat.zero_le _, rfl, rfl, rfl, rfl, rfl, rfl, rfl, rfl, rfl, rfl⟩
  rintro m ts hh mk ih ⟨j, hj', rfl, hl', q1, q3, q13, q20, q21, q22, rfl, rfl⟩
  rw [lit_all hl']
  simp only [lit0, litS, Nat.reduceAdd, q1, q3, q13, q20, q21, q22]
  simp (disch := first | assumption | omega | (simp only [az]; done)) only [ru, eq_self, if_true, if_false, BEq.rfl, binI, AO.row?, splice, fillL, mmAll, loadV, storeV, zeros, Am.rowAt, Am.part, addOff, Nat.reduceAdd, Nat.reduceMul, Nat.reduceLeDiff, Nat.reduceSub, Nat.reduceLT, Int.reduceEq, Int.reduceLT, Int.reduceLE, Int.reduceGT, Int.reduceGE, Int.reduceAdd, Int.reduceSub, Int.reduceMul, Int.reduceNeg, Int.reduceToNat, reduceCtorEq, reduceIte, lenV_sl H.k, lenV_sl H.p, lenV_sl H.b, elem_kd H.k, elem_pr H.p, elem_in H.b, view_sl H.k, view_sl H.p, view_sl H.b, scalar_sl H.k, scalar_sl H.p, scalar_sl H.b, cells_sl H.k, cells_sl H.p, cells_sl H.b, pure_sl H.k, pure_sl H.p, pure_sl H.b, Int.toNat_natCast, lenV_sl V, elem_in V, view_sl V, scalar_sl V, cells_sl V, pure_sl V, Int.toNat_natCast]
  by_cases hlt : (j : Int) < h.bs.length
  case pos =>
    have hj2 : j < h.bs.length := by omega
    have ij : inR (j : Int) 0 (h.bs.length - 1) = true := inR_iff.2 (by omega)
    have a25 := fun st => s25 H V' l1 (j : Int) st
    have a56 := fun st => s56 V l1 (j : Int) st
    have bd := prs_bd G x j
    have ft := Hs.ft_iff.1 P.f j hj2
    have el : (inB x j).length = (prs h.ps x j).length := by rw [← pts_inB xl, pts_len]
    have lv := lenV_sl (resL_is (inB x j))
    have e1 := sums_succ (n := j) (f := fun c => slP h.ks h.fl (prs h.ps x c))
    have e2 := sums_succ (n := j) (f := fun c => lbP (prs h.ps x c))
    have s1 := sums_bd (f := fun c => slP h.ks h.fl (prs h.ps x c)) (m := 240) (fun i => ⟨(prs_bd G x i).2.2.1, (prs_bd G x i).2.2.2⟩) j
    have s2 := sums_bd (f := fun c => lbP (prs h.ps x c)) (m := 240) (fun i => ⟨(prs_bd G x i).1, (prs_bd G x i).2.1⟩) j
    simp only [hsV, ansB, askS, hv, hp, ij, Bool.and_self, if_true, zt] at a25
    have ft' : lbP (prs h.ps x j) + slP h.ks h.fl (prs h.ps x j) ≤ h.bs.getD j 0 := ft
    obtain ⟨z1, hz1⟩ : ∃ z, z = sums j fun c => slP h.ks h.fl (prs h.ps x c) := ⟨_, rfl⟩
    obtain ⟨z2, hz2⟩ : ∃ z, z = sums j fun c => lbP (prs h.ps x c) := ⟨_, rfl⟩
    rw [← hz1] at e1 s1 ⊢
    rw [← hz2] at e2 s2 ⊢
    by_cases hem : (prs h.ps x j).length = 0
    · have hnil : prs h.ps x j = [] := List.eq_nil_of_length_eq_zero hem
      have b55 := fun st => a55 (j : Int) st
      have mw : (j : Int) ∈ h.spr := idx_in hj2 (List.any_eq_true.2 ⟨x, xm, decide_eq_true hem⟩)
      rw [decide_eq_true mw] at b55
      have c1 : lbP (prs h.ps x j) = 0 := by rw [hnil]; rfl
      have c2 : slP h.ks h.fl (prs h.ps x j) = 0 := by rw [hnil]; rfl
      have c3 : dyP h.ks (prs h.ps x j) = 0 := by rw [hnil]; rfl
      have lz : ((inB x j).length : Int) = 0 := by omega
      rw [c1, c2] at ft'
      rw [c2] at e1
      rw [c1] at e2
      simp only [c1, c2, c3] at a25
      have n5 : ¬ (0 : Int) > h.bs.getD j 0 := by omega
      obtain ⟨y, hy⟩ : ∃ y, y = h.bs.getD j 0 := ⟨_, rfl⟩
      rw [← hy] at n5
      simp (disch := first | assumption | omega | (simp only [az]; done)) only [ru, eq_self, if_true, if_false, BEq.rfl, binI, AO.row?, splice, fillL, mmAll, loadV, storeV, zeros, Am.rowAt, Am.part, addOff, Nat.reduceAdd, Nat.reduceMul, Nat.reduceLeDiff, Nat.reduceSub, Nat.reduceLT, Int.reduceEq, Int.reduceLT, Int.reduceLE, Int.reduceGT, Int.reduceGE, Int.reduceAdd, Int.reduceSub, Int.reduceMul, Int.reduceNeg, Int.reduceToNat, reduceCtorEq, reduceIte, lenV_sl H.k, lenV_sl H.p, lenV_sl H.b, elem_kd H.k, elem_pr H.p, elem_in H.b, view_sl H.k, view_sl H.p, view_sl H.b, scalar_sl H.k, scalar_sl H.p, scalar_sl H.b, cells_sl H.k, cells_sl H.p, cells_sl H.b, pure_sl H.k, pure_sl H.p, pure_sl H.b, Int.toNat_natCast, lenV_sl V, elem_in V, view_sl V, scalar_sl V, cells_sl V, pure_sl V, Int.toNat_natCast, lenV_sl V', elem_in V', view_sl V', scalar_sl V', cells_sl V', pure_sl V', Int.toNat_natCast, lenV_sl W, elem_in W, view_sl W, scalar_sl W, cells_sl W, pure_sl W, Int.toNat_natCast, hlt, cp, a25, a56, lv, lz, b55, n5, ← hy, gUn, Bool.not_true, decide_true, decide_false]
      refine ih (h.bs.length - (j + 1)) _ _ _ (by omega) ⟨j + 1, by omega, rfl, rfl, rfl, rfl, rfl, ?_, ?_, rfl, rfl, rfl⟩
      · rw [e1]; rfl
      · rw [e2]; rfl
    · have lz : ¬ ((inB x j).length : Int) = 0 := by omega
      obtain ⟨lb, hlb⟩ : ∃ z, z = lbP (prs h.ps x j) := ⟨_, rfl⟩
      obtain ⟨sl, hsl⟩ : ∃ z, z = slP h.ks h.fl (prs h.ps x j) := ⟨_, rfl⟩
      obtain ⟨dy, hdy⟩ : ∃ z, z = dyP h.ks (prs h.ps x j) := ⟨_, rfl⟩
      simp only [← hlb, ← hsl, ← hdy] at a25
      rw [← hlb, ← hsl] at ft' bd
      rw [← hsl] at e1
      rw [← hlb] at e2
      have n5 : ¬ lb + sl > h.bs.getD j 0 := by omega
      have n6 : ¬ lb < 0 := by omega
      have n7 : ¬ sl < 0 := by omega
      obtain ⟨y, hy⟩ : ∃ y, y = h.bs.getD j 0 := ⟨_, rfl⟩
      rw [← hy] at n5
      simp (disch := first | assumption | omega | (simp only [az]; done)) only [ru, eq_self, if_true, if_false, BEq.rfl, binI, AO.row?, splice, fillL, mmAll, loadV, storeV, zeros, Am.rowAt, Am.part, addOff, Nat.reduceAdd, Nat.reduceMul, Nat.reduceLeDiff, Nat.reduceSub, Nat.reduceLT, Int.reduceEq, Int.reduceLT, Int.reduceLE, Int.reduceGT, Int.reduceGE, Int.reduceAdd, Int.reduceSub, Int.reduceMul, Int.reduceNeg, Int.reduceToNat, reduceCtorEq, reduceIte, lenV_sl H.k, lenV_sl H.p, lenV_sl H.b, elem_kd H.k, elem_pr H.p, elem_in H.b, view_sl H.k, view_sl H.p, view_sl H.b, scalar_sl H.k, scalar_sl H.p, scalar_sl H.b, cells_sl H.k, cells_sl H.p, cells_sl H.b, pure_sl H.k, pure_sl H.p, pure_sl H.b, Int.toNat_natCast, lenV_sl V, elem_in V, view_sl V, scalar_sl V, cells_sl V, pure_sl V, Int.toNat_natCast, lenV_sl V', elem_in V', view_sl V', scalar_sl V', cells_sl V', pure_sl V', Int.toNat_natCast, lenV_sl W, elem_in W, view_sl W, scalar_sl W, cells_sl W, pure_sl W, Int.toNat_natCast, hlt, cp, a25, a56, lv, lz, n5, n6, n7, ← hy, gUn, Bool.not_true, decide_true, decide_false]
      refine ih (h.bs.length - (j + 1)) _ _ _ (by omega) ⟨j + 1, by omega, rfl, rfl, rfl, rfl, rfl, ?_, ?_, rfl, rfl, rfl⟩
      · rw [e1]; rfl
      · rw [e2]; rfl
  obtain rfl : j = h.bs.length := by omega
  rw [← eS, ← eA]
  simp (disch := first | assumption | omega | (simp only [az]; done)) only [ru, eq_self, if_true, if_false, BEq.rfl, binI, AO.row?, splice, fillL, mmAll, loadV, storeV, zeros, Am.rowAt, Am.part, addOff, Nat.reduceAdd, Nat.reduceMul, Nat.reduceLeDiff, Nat.reduceSub, Nat.reduceLT, Int.reduceEq, Int.reduceLT, Int.reduceLE, Int.reduceGT, Int.reduceGE, Int.reduceAdd, Int.reduceSub, Int.reduceMul, Int.reduceNeg, Int.reduceToNat, reduceCtorEq, reduceIte, lenV_sl H.k, lenV_sl H.p, lenV_sl H.b, elem_kd H.k, elem_pr H.p, elem_in H.b, view_sl H.k, view_sl H.p, view_sl H.b, scalar_sl H.k, scalar_sl H.p, scalar_sl H.b, cells_sl H.k, cells_sl H.p, cells_sl H.b, pure_sl H.k, pure_sl H.p, pure_sl H.b, Int.toNat_natCast, lenV_sl V, elem_in V, view_sl V, scalar_sl V, cells_sl V, pure_sl V, Int.toNat_natCast, hlt, a50, a53, s16, gUn, decide_true]
end
end Go.Proofs.Ytcdedbpmjhjehaa.S

