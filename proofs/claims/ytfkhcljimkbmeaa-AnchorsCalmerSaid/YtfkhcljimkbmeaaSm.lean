/-
In a calmer truth no more drags; the law of stage 2 on each truth.
-/
import Derived.Test.YtfkhcljimkbmeaaSl
namespace Go.Proofs.Ytfkhcljimkbmeaa.S
open Go Go.Am Go.Proofs.Ytfkhcljimkbmeaa.T
set_option maxRecDepth 100000
set_option linter.unusedSimpArgs false
set_option linter.unusedVariables false



/-- the first truth is calmer -/
structure Calmer (n : Net) (t t' : Tru) : Prop where
  w : t.wind ≤ t'.wind
  c : t.cur ≤ t'.cur
  g : ∀ i, i < n.grips.length → t'.grips.getD i default ≤ t.grips.getD i default

theorem calm_calmer {n : Net} {t : Tru} (G : Good n t) : Calmer n (calm n) t := by
  have h := G.tr
  simp only [truthOk, Bool.and_eq_true, inR_iff, decide_eq_true_eq, List.all_eq_true, List.mem_range] at h
  obtain ⟨⟨⟨⟨a0, a1⟩, b0, b1⟩, c⟩, d⟩ := h
  refine ⟨a0, b0, fun i hi => ?_⟩
  have e : (calm n).grips.getD i default = (n.grips.getD i default).hi := by simp [calm, List.getD_eq_getElem?_getD, hi]
  rw [e]; exact (d i (by omega)).2
theorem rough_calmer {n : Net} {t : Tru} (G : Good n t) : Calmer n t (rough n) := by
  have h := G.tr
  simp only [truthOk, Bool.and_eq_true, inR_iff, decide_eq_true_eq, List.all_eq_true, List.mem_range] at h
  obtain ⟨⟨⟨⟨a0, a1⟩, b0, b1⟩, c⟩, d⟩ := h
  refine ⟨a1, b1, fun i hi => ?_⟩
  have e : (rough n).grips.getD i default = (n.grips.getD i default).lo := by simp [rough, List.getD_eq_getElem?_getD, hi]
  rw [e]; exact (d i (by omega)).1

section
variable {n : Net} {t t' : Tru}
theorem ld_calmer (G : Fair n t) (C : Calmer n t t') {i : Nat} (hi : i < n.walls.length) : ldI n t i ≤ ldI n t' i := by
  have b := (netB G.v).w _ (getD_mem (l := n.walls) hi)
  have h1 := Int.mul_le_mul_of_nonneg_left C.w b.a0
  have h2 := Int.mul_le_mul_of_nonneg_left C.c b.b0
  unfold ldI; omega
theorem can_calmer (G : Fair n t) (C : Calmer n t t') {i : Nat} (hi : i < n.ancs.length) : canI n t' i ≤ canI n t i := by
  have b := (netB G.v).a _ (getD_mem (l := n.ancs) hi)
  have h := C.g (n.ancs.getD i default).b.toNat (by omega)
  unfold canI
  exact Int.mul_le_mul_of_nonneg_left h (by omega)
theorem twice_le {d : Bool} {x y : Int} (h : x ≤ y) : twice d x ≤ twice d y := by
  cases d <;> simp [twice] <;> omega
theorem bears_calmer (G : Fair n t) (C : Calmer n t t') {i : Nat} (hi : i < n.ancs.length) (D : Nat → Bool) : bearsI n t i D ≤ bearsI n t' i D := by
  have lw := (netB G.v).lw
  unfold bearsI
  apply Int.add_le_add
  · split
    · exact twice_le (ld_calmer G C (by omega))
    · exact Int.le_refl _
  · split
    · exact twice_le (ld_calmer G C (by omega))
    · exact Int.le_refl _
theorem spare_calmer (G : Fair n t) (C : Calmer n t t') {i : Nat} (hi : i < n.ancs.length) : spareI n t' i ≤ spareI n t i := by
  have h1 := can_calmer G C hi
  have h2 := bears_calmer G C hi none6
  unfold spareI; omega
theorem drg_calmer (G : Fair n t) (C : Calmer n t t') {i : Nat} (hi : i < n.ancs.length) {D : Nat → Bool} (h : drg n t i D = true) : drg n t' i D = true := by
  have h1 := can_calmer G C hi
  have h2 := bears_calmer G C hi D
  simp only [drg, decide_eq_true_eq] at h ⊢
  omega
theorem lfp_calmer (G : Fair n t) (G' : Fair n t') (C : Calmer n t t') : Le n (lfp n t none6) (lfp n t' none6) :=
  (none_lfp G).least _ (fun i hi h => (none_lfp G').cl i hi (drg_calmer G C hi h)) (none_lfp G').le
theorem first_part (G : Fair n t) : Le n (stepS n t none6) (lfp n t none6) :=
  step_least (good_pos G) (netB G.v).lw (none_lfp G).cl (none_lfp G).le
theorem first_at {i : Nat} : stepS n t none6 i = decide (spareI n t i < 0) := by
  rw [stepS, spareI, spare_neg]; rfl
theorem still_iff : still n t = true ↔ ∀ i, i < n.ancs.length → stepS n t none6 i = false := by
  unfold still
  rw [decide_eq_true_eq]
  constructor
  · intro h i hi
    cases hs : stepS n t none6 i with
    | false => rfl
    | true =>
      have := List.length_pos_of_mem ((mem_lst hi).2 hs)
      omega
  · intro h
    have : lst n (stepS n t none6) = lst n none6 := lst_congr fun i hi => by rw [h i hi]; rfl
    rw [this, lst_none]; rfl
theorem still_calmer (G : Fair n t) (C : Calmer n t t') (h : still n t' = true) : still n t = true := by
  rw [still_iff] at h ⊢
  intro i hi
  have := h i hi
  rw [first_at] at this ⊢
  have h2 := spare_calmer G C hi
  simp only [decide_eq_false_iff_not] at this ⊢
  omega
end

theorem safe_cases {n : Net} {t : Tru} (G : Good n t) : (safeR n = 1 ∧ ((lst n (stepS n t none6)).length : Int) = 0) ∨ (safeR n = 2 ∧ ¬ ((lst n (stepS n t none6)).length : Int) = 0) ∨ (safeR n = 3 ∧ True) := by
  have e : still n t = true ↔ ((lst n (stepS n t none6)).length : Int) = 0 := by unfold still; exact decide_eq_true_iff
  unfold safeR
  by_cases h1 : still n (rough n) = true
  · left
    exact ⟨by rw [if_pos h1], e.1 (still_calmer G.toFair (rough_calmer G) h1)⟩
  · rw [if_neg h1]
    by_cases h2 : still n (calm n) = true
    · right; right; exact ⟨by rw [if_pos h2], trivial⟩
    · right; left
      refine ⟨by rw [if_neg h2], fun h => h2 (still_calmer (calm_good G.v).toFair (calm_calmer G) (e.2 h))⟩
theorem drag_cases {n : Net} {t : Tru} (G : Good n t) {i : Nat} (hi : i < n.ancs.length) : (dragR n i (lfp n (calm n) none6 i) (lfp n (rough n) none6 i) = 1 ∧ lfp n t none6 i = true) ∨ (dragR n i (lfp n (calm n) none6 i) (lfp n (rough n) none6 i) = 2 ∧ lfp n t none6 i = false) ∨ (dragR n i (lfp n (calm n) none6 i) (lfp n (rough n) none6 i) = 3 ∧ True) := by
  have h1 := lfp_calmer (calm_good G.v).toFair G.toFair (calm_calmer G) i hi
  have h2 := lfp_calmer G.toFair (rough_good G.v).toFair (rough_calmer G) i hi
  unfold dragR
  cases hc : lfp n (calm n) none6 i <;> cases hr : lfp n (rough n) none6 i <;> cases ht : lfp n t none6 i <;> simp_all

set_option maxHeartbeats 4000000 in
theorem s8 {n : Net} {g a w : AV} (H0 : NetIn n g a w) {t : Tru} {v : AV} (V0 : TruIn t v) (st : Bool) : Iso E 8 [netV n g a w, .agg [I t.wind, I t.cur, v]] st = some (Bo true) := by
  refine Iso_of (es _ _ _ _) e8 ?_
  simp only [f8, netV]
  by_cases hs : smallN n
  case neg =>
    simp (disch := first | assumption | omega | (simp only [az]; done)) only [ru, eq_self, if_true, if_false, BEq.rfl, binI, AO.row?, splice, fillL, mmAll, loadV, storeV, zeros, Am.rowAt, Am.part, addOff, Nat.reduceAdd, Nat.reduceMul, Nat.reduceLeDiff, Nat.reduceSub, Nat.reduceLT, Int.reduceEq, Int.reduceLT, Int.reduceLE, Int.reduceGT, Int.reduceGE, Int.reduceAdd, Int.reduceSub, Int.reduceMul, Int.reduceNeg, Int.reduceToNat, reduceCtorEq, reduceIte, s51h H0 hs V0, view_sl H0.g, view_sl H0.a, view_sl H0.w, view_sl V0.s, s16]
  have H : NetOk n g a w := ⟨H0.g, H0.a, H0.w, hs.1, hs.2.1, hs.2.2⟩
  have sa := H.sa
  cases hg : gvn n t
  · simp (disch := first | assumption | omega | (simp only [az]; done)) only [ru, eq_self, if_true, if_false, BEq.rfl, binI, AO.row?, splice, fillL, mmAll, loadV, storeV, zeros, Am.rowAt, Am.part, addOff, Nat.reduceAdd, Nat.reduceMul, Nat.reduceLeDiff, Nat.reduceSub, Nat.reduceLT, Int.reduceEq, Int.reduceLT, Int.reduceLE, Int.reduceGT, Int.reduceGE, Int.reduceAdd, Int.reduceSub, Int.reduceMul, Int.reduceNeg, Int.reduceToNat, reduceCtorEq, reduceIte, lenV_sl H.g, lenV_sl H.a, lenV_sl H.w, elem_sl Spn.el H.g, elem_sl Anc.el H.a, elem_sl Wal.el H.w, view_sl H.g, view_sl H.a, view_sl H.w, scalar_sl H.g, scalar_sl H.a, scalar_sl H.w, cells_sl H.g, cells_sl H.a, cells_sl H.w, pure_sl H.g, pure_sl H.a, pure_sl H.w, Spn.e, Anc.e, Wal.e, Spn.eta, Anc.eta, Wal.eta, Int.toNat_natCast, s51 H V0, view_sl V0.s, hg, s16]
  have G := gvn_good hg
  have V : TruOk t v := ⟨V0.s, gvn_l hg⟩
  have g0 := good_e G
  have a1 := s26 H V.c
  have a2 := s52 H V G
  have a3 := fun st => s39 H G.v st
  simp only [ansL, errL, g0, if_true] at a1
  obtain ⟨F, hF⟩ : ∃ F, F = lst n (stepS n t none6) := ⟨_, rfl⟩
  obtain ⟨K, hK⟩ : ∃ K, K = lst n (lfp n t none6) := ⟨_, rfl⟩
  have lF : F.length ≤ n.ancs.length := by rw [hF]; exact lst_le
  have lK : K.length ≤ n.ancs.length := by rw [hK]; exact lst_le
  have rF : Rises F 0 ((n.ancs.length : Int) - 1) := by rw [hF]; exact lst_rises n _
  have part := lst_part (first_part G.toFair)
  have sc := safe_cases G
  have inF : ∀ i : Nat, i < n.ancs.length → anyIs F (i : Int) = decide (spareI n t i < 0) := fun i hi => by
    rw [← first_at]
    have := mem_lst (n := n) (D := stepS n t none6) hi
    rw [← hF, ← anyIs_iff] at this
    cases h1 : anyIs F (i : Int) <;> cases h2 : stepS n t none6 i <;> simp_all
  have inK : ∀ i : Nat, i < n.ancs.length → anyIs K (i : Int) = lfp n t none6 i := fun i hi => by
    have := mem_lst (n := n) (D := lfp n t none6) hi
    rw [← hK, ← anyIs_iff] at this
    cases h1 : anyIs K (i : Int) <;> cases h2 : lfp n t none6 i <;> simp_all
  rw [← hF] at a1 sc
  rw [← hK] at a2
  rw [← hF, ← hK] at part
  have b1 := fun st => s53 (resL_is F) (by omega) rF st
  have b2 := fun x st => s56 (resL_is F) (by omega) x st
  have b3 := fun st => s54 (resL_is F) (resL_is K) (by omega) (by omega) part st
  have b4 := fun x st => s56 (resL_is K) (by omega) x st
  simp (disch := first | assumption | omega | (simp only [az]; done)) only [ru, eq_self, if_true, if_false, BEq.rfl, binI, AO.row?, splice, fillL, mmAll, loadV, storeV, zeros, Am.rowAt, Am.part, addOff, Nat.reduceAdd, Nat.reduceMul, Nat.reduceLeDiff, Nat.reduceSub, Nat.reduceLT, Int.reduceEq, Int.reduceLT, Int.reduceLE, Int.reduceGT, Int.reduceGE, Int.reduceAdd, Int.reduceSub, Int.reduceMul, Int.reduceNeg, Int.reduceToNat, reduceCtorEq, reduceIte, lenV_sl H.g, lenV_sl H.a, lenV_sl H.w, elem_sl Spn.el H.g, elem_sl Anc.el H.a, elem_sl Wal.el H.w, view_sl H.g, view_sl H.a, view_sl H.w, scalar_sl H.g, scalar_sl H.a, scalar_sl H.w, cells_sl H.g, cells_sl H.a, cells_sl H.w, pure_sl H.g, pure_sl H.a, pure_sl H.w, Spn.e, Anc.e, Wal.e, Spn.eta, Anc.eta, Wal.eta, Int.toNat_natCast, lenV_sl V.s, elem_sl intE V.s, view_sl V.s, scalar_sl V.s, cells_sl V.s, pure_sl V.s, s51 H V0, hg, a1, a2, a3, s25 V, slV_sc, slV_ce, slV_vi, slV_pu, resL_vi, b1, b2, b3, b4, lenV_sl (resL_is F)]
  rcases sc with ⟨s1, s2⟩ | ⟨s1, s2⟩ | ⟨s1, s2⟩
  all_goals
    simp (disch := first | assumption | omega | (simp only [az]; done)) only [ru, eq_self, if_true, if_false, BEq.rfl, binI, AO.row?, splice, fillL, mmAll, loadV, storeV, zeros, Am.rowAt, Am.part, addOff, Nat.reduceAdd, Nat.reduceMul, Nat.reduceLeDiff, Nat.reduceSub, Nat.reduceLT, Int.reduceEq, Int.reduceLT, Int.reduceLE, Int.reduceGT, Int.reduceGE, Int.reduceAdd, Int.reduceSub, Int.reduceMul, Int.reduceNeg, Int.reduceToNat, reduceCtorEq, reduceIte, s1, s2, gUn, lenV_sl (resL_is F)]
    refine G_loop_ind (fun m ts h mk => ∃ (i : Nat) (J : List AO), i ≤ n.ancs.length ∧ m = n.ancs.length - i ∧ ts.length = 152 ∧ ts.getD 2 .undef = .ptr 0 0 ∧ ts.getD 3 .undef = .ptr 1 0 ∧ ts.getD 5 .undef = resL F ∧
      ts.getD 7 .undef = resL K ∧ ts.getD 11 .undef = I i ∧ h = .cells [I n.wind.lo, I n.wind.hi, I n.cur.lo, I n.cur.hi, g, a, w] false :: .cells [I t.wind, I t.cur, v] false :: J ∧ mk = []) ?_ _ _ _ _ ⟨0, [], Nat.zero_le _, rfl, rfl, rfl, rfl, rfl, rfl, rfl, rfl, rfl⟩
    rintro m ts h mk ih ⟨i, J, hi, rfl, hl, q2, q3, q5, q7, q11, rfl, rfl⟩
    rw [lit_all hl]
    simp only [lit0, litS, Nat.reduceAdd, q2, q3, q5, q7, q11]
    simp (disch := first | assumption | omega | (simp only [az]; done)) only [ru, eq_self, if_true, if_false, BEq.rfl, binI, AO.row?, splice, fillL, mmAll, loadV, storeV, zeros, Am.rowAt, Am.part, addOff, Nat.reduceAdd, Nat.reduceMul, Nat.reduceLeDiff, Nat.reduceSub, Nat.reduceLT, Int.reduceEq, Int.reduceLT, Int.reduceLE, Int.reduceGT, Int.reduceGE, Int.reduceAdd, Int.reduceSub, Int.reduceMul, Int.reduceNeg, Int.reduceToNat, reduceCtorEq, reduceIte, lenV_sl H.g, lenV_sl H.a, lenV_sl H.w, elem_sl Spn.el H.g, elem_sl Anc.el H.a, elem_sl Wal.el H.w, view_sl H.g, view_sl H.a, view_sl H.w, scalar_sl H.g, scalar_sl H.a, scalar_sl H.w, cells_sl H.g, cells_sl H.a, cells_sl H.w, pure_sl H.g, pure_sl H.a, pure_sl H.w, Spn.e, Anc.e, Wal.e, Spn.eta, Anc.eta, Wal.eta, Int.toNat_natCast]
    by_cases hlt : (i : Int) < n.ancs.length
    case pos =>
      have hi' : i < n.ancs.length := by omega
      have c1 := fun st => s37 H G.v hi' st
      have c2 := fun st => s41 H G.v hi' st
      have c3 := fun st => s55 H V G hi' st
      have c4 := inF i hi'
      have c5 := inK i hi'
      have o1 := spare_calmer G.toFair (rough_calmer G) hi'
      have o2 := spare_calmer (calm_good G.v).toFair (calm_calmer G) hi'
      have o3 : ¬ spareI n t i < spareI n (rough n) i := by omega
      have o4 : ¬ spareI n t i > spareI n (calm n) i := by omega
      simp (disch := first | assumption | omega | (simp only [az]; done)) only [ru, eq_self, if_true, if_false, BEq.rfl, binI, AO.row?, splice, fillL, mmAll, loadV, storeV, zeros, Am.rowAt, Am.part, addOff, Nat.reduceAdd, Nat.reduceMul, Nat.reduceLeDiff, Nat.reduceSub, Nat.reduceLT, Int.reduceEq, Int.reduceLT, Int.reduceLE, Int.reduceGT, Int.reduceGE, Int.reduceAdd, Int.reduceSub, Int.reduceMul, Int.reduceNeg, Int.reduceToNat, reduceCtorEq, reduceIte, lenV_sl H.g, lenV_sl H.a, lenV_sl H.w, elem_sl Spn.el H.g, elem_sl Anc.el H.a, elem_sl Wal.el H.w, view_sl H.g, view_sl H.a, view_sl H.w, scalar_sl H.g, scalar_sl H.a, scalar_sl H.w, cells_sl H.g, cells_sl H.a, cells_sl H.w, pure_sl H.g, pure_sl H.a, pure_sl H.w, Spn.e, Anc.e, Wal.e, Spn.eta, Anc.eta, Wal.eta, Int.toNat_natCast, lenV_sl V.s, elem_sl intE V.s, view_sl V.s, scalar_sl V.s, cells_sl V.s, pure_sl V.s, hlt, c1, c2, c3, c4, c5, b2, b4, resL_vi]
      rcases drag_cases G hi' with ⟨d1, d2⟩ | ⟨d1, d2⟩ | ⟨d1, d2⟩
      all_goals
        by_cases hn : spareI n t i < 0
        all_goals
          simp (disch := first | assumption | omega | (simp only [az]; done)) only [ru, eq_self, if_true, if_false, BEq.rfl, binI, AO.row?, splice, fillL, mmAll, loadV, storeV, zeros, Am.rowAt, Am.part, addOff, Nat.reduceAdd, Nat.reduceMul, Nat.reduceLeDiff, Nat.reduceSub, Nat.reduceLT, Int.reduceEq, Int.reduceLT, Int.reduceLE, Int.reduceGT, Int.reduceGE, Int.reduceAdd, Int.reduceSub, Int.reduceMul, Int.reduceNeg, Int.reduceToNat, reduceCtorEq, reduceIte, lenV_sl H.g, lenV_sl H.a, lenV_sl H.w, elem_sl Spn.el H.g, elem_sl Anc.el H.a, elem_sl Wal.el H.w, view_sl H.g, view_sl H.a, view_sl H.w, scalar_sl H.g, scalar_sl H.a, scalar_sl H.w, cells_sl H.g, cells_sl H.a, cells_sl H.w, pure_sl H.g, pure_sl H.a, pure_sl H.w, Spn.e, Anc.e, Wal.e, Spn.eta, Anc.eta, Wal.eta, Int.toNat_natCast, lenV_sl V.s, elem_sl intE V.s, view_sl V.s, scalar_sl V.s, cells_sl V.s, pure_sl V.s, d1, d2, o3, o4, hn, gUn, b2, b4, c4, c5, resL_vi]
          exact ih (n.ancs.length - (i + 1)) _ _ _ (by omega) ⟨i + 1, _, by omega, rfl, rfl, rfl, rfl, rfl, rfl, rfl, rfl, rfl⟩
    simp (disch := first | assumption | omega | (simp only [az]; done)) only [ru, eq_self, if_true, if_false, BEq.rfl, binI, AO.row?, splice, fillL, mmAll, loadV, storeV, zeros, Am.rowAt, Am.part, addOff, Nat.reduceAdd, Nat.reduceMul, Nat.reduceLeDiff, Nat.reduceSub, Nat.reduceLT, Int.reduceEq, Int.reduceLT, Int.reduceLE, Int.reduceGT, Int.reduceGE, Int.reduceAdd, Int.reduceSub, Int.reduceMul, Int.reduceNeg, Int.reduceToNat, reduceCtorEq, reduceIte, hlt, s16]
end Go.Proofs.Ytfkhcljimkbmeaa.S
