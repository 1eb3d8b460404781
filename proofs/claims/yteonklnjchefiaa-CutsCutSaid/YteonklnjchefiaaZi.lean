/-
The specification: lists of parts, the best cut.
-/
import Derived.Test.YteonklnjchefiaaZh
namespace Go.Proofs.Yteonklnjchefiaa.S
open Go Go.Am Go.Proofs.Yteonklnjchefiaa.T
set_option maxRecDepth 100000
set_option linter.unusedSimpArgs false
set_option linter.unusedVariables false

theorem bst_R {R : List Int → List Int → Bool} (asy : ∀ {x y}, R x y = true → R y x = false) {f : List Int → Bool} {cost : List Int → Int} {l : List (List Int)} : l.Pairwise (fun x y => R x y = true) → ∀ {x : List Int}, bst f cost l = some x → (x ∈ l ∧ f x = true ∧ ∀ c ∈ l, f c = true → cost x ≤ cost c ∧ (cost c = cost x → R c x = false)) := by
  refine snocRec (fun l => l.Pairwise (fun x y => R x y = true) → ∀ {x : List Int}, bst f cost l = some x → (x ∈ l ∧ f x = true ∧ ∀ c ∈ l, f c = true → cost x ≤ cost c ∧ (cost c = cost x → R c x = false))) l (by intro _ x h; cases h) ?_
  intro l c ih hp x h
  rw [List.pairwise_append] at hp
  obtain ⟨hp, _, hc⟩ := hp
  rw [bst_snoc] at h
  unfold bstS at h
  split at h
  · rename_i hf
    split at h
    · rename_i e
      cases h
      refine ⟨by simp, hf, fun y hy hfy => ?_⟩
      rcases List.mem_append.1 hy with hy | hy
      · rw [bst_none.1 e y hy] at hfy; cases hfy
      · rw [List.mem_singleton] at hy; subst hy
        refine ⟨Int.le_refl _, fun _ => ?_⟩
        cases hh : R y y with
        | false => rfl
        | true => have := asy hh; rw [hh] at this; cases this
    · rename_i z e
      split at h
      · rename_i hlt
        cases h
        obtain ⟨h1, h2, h3⟩ := ih hp e
        refine ⟨by simp, hf, fun y hy hfy => ?_⟩
        rcases List.mem_append.1 hy with hy | hy
        · have := (h3 y hy hfy).1
          exact ⟨by omega, fun e => by omega⟩
        · rw [List.mem_singleton] at hy; subst hy
          refine ⟨Int.le_refl _, fun _ => ?_⟩
          cases hh : R y y with
          | false => rfl
          | true => have := asy hh; rw [hh] at this; cases this
      · rename_i hlt
        obtain ⟨h1, h2, h3⟩ := ih hp h
        rw [e] at h
        cases h
        refine ⟨by simp [h1], h2, fun y hy hfy => ?_⟩
        rcases List.mem_append.1 hy with hy | hy
        · exact h3 y hy hfy
        · rw [List.mem_singleton] at hy; subst hy
          exact ⟨by omega, fun _ => asy (hc _ h1 _ (by simp))⟩
  · rename_i hf
    obtain ⟨h1, h2, h3⟩ := ih hp h
    refine ⟨by simp [h1], h2, fun y hy hfy => ?_⟩
    rcases List.mem_append.1 hy with hy | hy
    · exact h3 y hy hfy
    · rw [List.mem_singleton] at hy; subst hy; exact absurd hfy hf
theorem bef_asym {x y : List Int} (h : bef x y = true) : bef y x = false := by
  simp only [bef, Bool.or_eq_true, Bool.and_eq_true, decide_eq_true_eq] at h
  rw [Bool.eq_false_iff]
  intro h2
  simp only [bef, Bool.or_eq_true, Bool.and_eq_true, decide_eq_true_eq] at h2
  rcases h with h | ⟨h, h'⟩ <;> rcases h2 with h2 | ⟨h2, h2'⟩
  · omega
  · omega
  · omega
  · rw [ear_asym h'] at h2'; cases h2'
theorem bef_tot {x y : List Int} (h1 : bef x y = false) (h2 : bef y x = false) : x = y := by
  simp only [bef, Bool.or_eq_false_iff, decide_eq_false_iff_not] at h1 h2
  have hl : x.length = y.length := by omega
  refine ear_total hl ?_ ?_
  · have := h1.2; rw [decide_eq_true hl, Bool.true_and] at this; exact this
  · have := h2.2; rw [decide_eq_true hl.symm, Bool.true_and] at this; exact this
theorem best_spec2 {t : List Pt} : cutB t (bcut t) = true ∧ ∀ l, cutB t l = true → prc t l ≤ prc t (bcut t) ∧ (prc t l = prc t (bcut t) → bef l (bcut t) = false) := by
  obtain ⟨h1, _, h3⟩ := bst_R (R := bef) bef_asym (l := cutsL t) cuts_sorted (bcut_some (t := t))
  refine ⟨mem_cuts.1 h1, fun l hl => ?_⟩
  obtain ⟨h4, h5⟩ := h3 l (mem_cuts.2 hl) rfl
  exact ⟨by omega, fun e => h5 (by omega)⟩

/-! rising lists -/
def qI (F : List Int) (x : Int) : Bool := decide (F.length = 0) || decide (F.getD (F.length - 1) 0 < x)
/-- where the next number may begin -/
def frm (F : List Int) : Nat := if F.length = 0 then 0 else (F.getD (F.length - 1) 0 + 1).toNat
theorem qI_frm {F : List Int} {j : Nat} (h0 : F.length ≠ 0 → 0 ≤ F.getD (F.length - 1) 0) : qI F j = decide (frm F ≤ j) := by
  unfold qI frm
  by_cases e : F.length = 0
  · simp [e]
  · have := h0 e
    rw [if_neg e, decide_eq_false e, Bool.false_or, decide_eq_decide]
    omega
theorem frm_snoc {F : List Int} {j : Nat} : frm (F ++ [(j : Int)]) = j + 1 := by
  unfold frm
  rw [if_neg (by simp)]
  have : (F ++ [(j : Int)]).getD ((F ++ [(j : Int)]).length - 1) 0 = j := by simp [List.getD_eq_getElem?_getD]
  rw [this]; omega
def enX (k d : Nat) (F : List Int) (i : Nat) : List (List Int) := (List.range i).flatMap fun (j : Nat) => if qI F j then enm qI k d (F ++ [(j : Int)]) else []
theorem enX_succ {k d : Nat} {F : List Int} {i : Nat} : enX k d F (i + 1) = enX k d F i ++ (if qI F i then enm qI k d (F ++ [(i : Int)]) else []) := by simp [enX, List.range_succ]
theorem enX_zero {k d : Nat} {F : List Int} : ∀ {i : Nat}, (∀ j, j < i → qI F (j : Nat) = false) → enX k d F i = []
  | 0, _ => rfl
  | i + 1, h => by rw [enX_succ, enX_zero fun j hj => h j (by omega), h i (by omega)]; rfl
theorem last_nn {k : Nat} {F : List Int} (hF : okE qI k F) : F.length ≠ 0 → 0 ≤ F.getD (F.length - 1) 0 := fun e => (hF (F.length - 1) (by omega)).1
theorem frm_le {k : Nat} {F : List Int} (hF : okE qI k F) : frm F ≤ k := by
  unfold frm
  split
  · omega
  · have := (hF (F.length - 1) (by omega)).2.1; omega
theorem enI_len {k : Nat} : ∀ {d : Nat} {F : List Int}, okE qI k F → (enm qI k d F).length ≤ 2 ^ (k - frm F) ∧ ∀ d', d = d' + 1 → ∀ i, frm F ≤ i → i ≤ k → (enX k d' F i).length + 2 ^ (k - i) ≤ 2 ^ (k - frm F)
  | 0, F, _ => ⟨by simp only [enm, List.length_singleton]; exact Nat.one_le_two_pow, fun d' e => by omega⟩
  | d + 1, F, hF => by
    have key : ∀ m, frm F + m ≤ k → (enX k d F (frm F + m)).length + 2 ^ (k - (frm F + m)) ≤ 2 ^ (k - frm F) := by
      intro m
      induction m with
      | zero =>
        intro _
        rw [Nat.add_zero, enX_zero fun j hj => by rw [qI_frm (last_nn hF)]; exact decide_eq_false (by omega)]
        simp
      | succ m ih =>
        intro hm
        have h1 := ih (by omega)
        have q1 : qI F ((frm F + m : Nat) : Int) = true := by rw [qI_frm (last_nn hF)]; exact decide_eq_true (by omega)
        have h2 := (enI_len (k := k) (d := d) (F := F ++ [((frm F + m : Nat) : Int)]) (okE_snoc.2 ⟨hF, by omega, by omega, q1⟩)).1
        rw [frm_snoc] at h2
        have e : frm F + (m + 1) = (frm F + m) + 1 := by omega
        rw [e, enX_succ, q1, if_pos rfl, List.length_append]
        have e2 : 2 ^ (k - (frm F + m)) = 2 ^ (k - (frm F + m + 1)) + 2 ^ (k - (frm F + m + 1)) := by
          have : k - (frm F + m) = (k - (frm F + m + 1)) + 1 := by omega
          rw [this, Nat.pow_succ]; omega
        omega
    have key2 : ∀ i, frm F ≤ i → i ≤ k → (enX k d F i).length + 2 ^ (k - i) ≤ 2 ^ (k - frm F) := fun i h1 h2 => by
      have := key (i - frm F) (by omega)
      rw [show frm F + (i - frm F) = i by omega] at this
      exact this
    refine ⟨?_, fun d' e => by cases e; exact key2⟩
    have : enm qI k (d + 1) F = enX k d F k := rfl
    rw [this]
    have := key2 k (frm_le hF) (Nat.le_refl _)
    have := Nat.two_pow_pos (k - k)
    omega
theorem pow_256 {n : Nat} (h : n ≤ 8) : 2 ^ n ≤ 256 := by
  have := Nat.pow_le_pow_right (n := 2) (by omega) h
  simpa using this

set_option maxHeartbeats 4000000 in
theorem r124 {k : Nat} (k8 : k ≤ 8) : ∀ (d : Nat) (F : List Int) (fv : AV) (g : List AO) (lim : Nat), okE qI k F → RdS g fv F → lim ≤ g.length → F.length + d ≤ 8 →
    ∃ v g', R E (.fn 124) [fv, I ((F.length + d : Nat) : Int), I k] g lim = some (v, g') ∧ Fr g g' ∧ OutLL g.length g' v (enm qI k d F) := by
  intro d
  induction d with
  | zero =>
    intro F fv g lim hk hF hlim hb
    obtain ⟨f1, f2, f3⟩ := hF.len
    refine R_of (fun r g' => Fr g g' ∧ OutLL g.length g' r (enm qI k 0 F)) (es _ _ _ _) e124 ?_
    simp only [f124]
    have e0 : enm qI k 0 F = [F] := rfl
    rw [e0]
    simp (disch := first | assumption | omega | (simp only [az]; done)) only [ru, eq_self, if_true, if_false, BEq.rfl, binI, AO.row?, splice, fillL, mmAll, loadV, storeV, zeros, Am.rowAt, Am.part, addOff, Nat.reduceAdd, Nat.reduceMul, Nat.reduceLeDiff, Nat.reduceSub, Nat.reduceLT, Int.reduceEq, Int.reduceLT, Int.reduceLE, Int.reduceGT, Int.reduceGE, Int.reduceAdd, Int.reduceSub, Int.reduceMul, Int.reduceNeg, Int.reduceToNat, reduceCtorEq, reduceIte, f1, f2, f3, Nat.add_zero, decide_true, exOp_buildSlice]
    refine ⟨Fr.app _ _, .inr ⟨by simp, g.length, [fv], Nat.le_refl _, rfl, by simp, rfl, fun i hi => ?_⟩⟩
    have hi0 : i = 0 := by simp at hi; omega
    subst hi0
    simp only [get0]
    exact hF.fr (Fr.app _ _)
  | succ d ih =>
    intro F fv g lim hk hF hlim hb
    obtain ⟨f1, f2, f3⟩ := hF.len
    have hl : ¬ (F.length : Int) = ((F.length + (d + 1) : Nat) : Int) := by omega
    refine R_of (fun r g' => Fr g g' ∧ OutLL g.length g' r (enm qI k (d + 1) F)) (es _ _ _ _) e124 ?_
    simp only [f124]
    have e0 : enm qI k (d + 1) F = enX k d F k := rfl
    rw [e0]
    have fl := frm_le hk
    have lens := (enI_len (d := d + 1) hk).2 d rfl
    have q0' := fun (j : Nat) => qI_frm (F := F) (j := j) (last_nn hk)
    have st0 : Fr g g ∧ OutLL g.length g .nils (enX k d F (frm F)) := ⟨Fr.refl _, .inl ⟨enX_zero fun j hj => by rw [q0']; exact decide_eq_false (by omega), rfl⟩⟩
    have step : ∀ (j : Nat), frm F ≤ j → j < k → ∀ (gk : List AO) (o : AV), Fr g gk → OutLL g.length gk o (enX k d F j) → ∃ (h1 : List AO) (o1 : Nat) (H5 : List AO) (v' : AV) (h' : List AO) (v'' : AV) (h'' : List AO),
        appV lim (gk ++ [.cells [] false]) 1 8 (.ms 1 gk.length 0 0) fv = some (.ms 1 o1 0 F.length, h1) ∧
        appV lim (h1 ++ [.cells [I j] false]) 1 8 (.ms 1 o1 0 F.length) (.ms 1 h1.length 0 1) = some (.ms 1 (h1.length + 1) 0 (F.length + 1), H5) ∧
        R E (.fn 124) [.ms 1 (h1.length + 1) 0 (F.length + 1), I ((F.length + (d + 1) : Nat) : Int), I k] H5 lim = some (v', h') ∧
        appV lim h' 1 24 o v' = some (v'', h'') ∧ Fr g h'' ∧ OutLL g.length h'' v'' (enX k d F (j + 1)) := by
      intro j hj hjk gk o fr ho
      have hF' := hF.fr fr
      have lk := fr.l
      obtain ⟨w1, h1, A1, fr1, l1, o1, ho1, rfl, hc1⟩ := cpyR (lim := lim) hF' (by omega) (by omega)
      have o1l := (List.getElem?_eq_some_iff.1 hc1).1
      have hc1' : (h1 ++ [AO.cells [I (j : Int)] false])[o1]? = some (.cells (F.flatMap intL) false) := by rw [at_ap o1l]; exact hc1
      have hr : Am.rowOf (h1 ++ [AO.cells [I (j : Int)] false]) (.ms 1 h1.length 0 1) = some [I (j : Int)] := by
        simp only [rowOf_ms, Am.rowAt, atE]; rfl
      have A2 := appV_ms (lim := lim) (esz := 1) (eb := 8) (n := 1) (x := .ms 1 h1.length 0 1) (xs := [I (j : Int)]) hc1' (by rw [flat_len intE]) rfl hr rfl rfl (by omega) (by omega) (by omega)
      rw [if_neg (by omega)] at A2
      have lh : (h1 ++ [AO.cells [I (j : Int)] false]).length = h1.length + 1 := by simp
      rw [lh] at A2
      obtain ⟨H5, hH5⟩ : ∃ H5, H5 = (h1 ++ [AO.cells [I (j : Int)] false]).set o1 .tomb ++ [AO.cells (F.flatMap intL ++ [I (j : Int)]) false] := ⟨_, rfl⟩
      rw [← hH5] at A2
      have l5 : H5.length = h1.length + 2 := by rw [hH5]; simp
      have c5 : H5[h1.length + 1]? = some (.cells ((F ++ [(j : Int)]).flatMap intL) false) := by
        have e : h1.length + 1 = ((h1 ++ [AO.cells [I (j : Int)] false]).set o1 .tomb).length := by simp
        rw [hH5, e, atE, List.flatMap_append]; rfl
      have fr5 : Fr gk H5 := ⟨by omega, fun i hi => by
        rw [hH5, at_ap (by simp; omega), List.getElem?_set_ne (by omega), at_ap (by omega)]
        exact fr1.k i hi⟩
      have rd : RdS H5 (.ms 1 (h1.length + 1) 0 (F.length + 1)) (F ++ [(j : Int)]) := .inr ⟨by simp, h1.length + 1, false, by simp, c5⟩
      have qj : qI F (j : Int) = true := by rw [q0']; exact decide_eq_true hj
      obtain ⟨v', h', hr', fr', ho'⟩ := ih (F ++ [(j : Int)]) (.ms 1 (h1.length + 1) 0 (F.length + 1)) H5 lim (okE_snoc.2 ⟨hk, by omega, by omega, qj⟩) rd (by omega) (by simp; omega)
      have ee : (F ++ [(j : Int)]).length + d = F.length + (d + 1) := by simp; omega
      rw [ee] at hr'
      have fr'' := fr.trans (fr5.trans fr')
      have ln := lens (j + 1) (by omega) (by omega)
      have p2 := pow_256 (show k - frm F ≤ 8 by omega)
      have p3 := Nat.two_pow_pos (k - (j + 1))
      have ex : enX k d F (j + 1) = enX k d F j ++ enm qI k d (F ++ [(j : Int)]) := by rw [enX_succ, qj, if_pos rfl]
      rw [ex, List.length_append] at ln
      obtain ⟨v'', h'', A3, z1, z2, z3⟩ := app_llV (lim := lim) (b := g.length) (ho.fr (fr5.trans fr')) (ho'.deep (by omega)) fr''.l hlim (by omega)
      exact ⟨h1, o1, H5, v', h', v'', h'', A1, A2, hr', A3, ⟨by have := fr''.l; omega, fun i hi => by rw [z2 i hi]; exact fr''.k i hi⟩, by rw [ex]; exact z3⟩
    by_cases hz : F.length = 0
    · have hfm : frm F = 0 := by unfold frm; rw [if_pos hz]
      have g1 : ¬ (F.length : Int) > 0 := by omega
      simp (disch := first | assumption | omega | (simp only [az]; done)) only [ru, eq_self, if_true, if_false, BEq.rfl, binI, AO.row?, splice, fillL, mmAll, loadV, storeV, zeros, Am.rowAt, Am.part, addOff, Nat.reduceAdd, Nat.reduceMul, Nat.reduceLeDiff, Nat.reduceSub, Nat.reduceLT, Int.reduceEq, Int.reduceLT, Int.reduceLE, Int.reduceGT, Int.reduceGE, Int.reduceAdd, Int.reduceSub, Int.reduceMul, Int.reduceNeg, Int.reduceToNat, reduceCtorEq, reduceIte, f1, f2, f3, hl, g1, decide_true, decide_false]
      refine G_loop_ind (fun m ts gk mk => ∃ (j : Nat) (o : AV), frm F ≤ j ∧ j ≤ k ∧ m = k - j ∧ Fr g gk ∧ OutLL g.length gk o (enX k d F j) ∧ ts.length = 44 ∧ ts.getD 0 .undef = fv ∧ ts.getD 1 .undef = I ((F.length + (d + 1) : Nat) : Int) ∧ ts.getD 2 .undef = I k ∧ ts.getD 8 .undef = o ∧ ts.getD 9 .undef = I j ∧ mk = []) ?_ _ _ _ _
        ⟨0, .nils, by omega, Nat.zero_le _, rfl, st0.1, by have := st0.2; rw [hfm] at this; exact this, rfl, rfl, rfl, rfl, rfl, rfl, rfl⟩
      rintro m ts gk mk ihk ⟨j, o, hj0, hjk, rfl, fr, ho, hl', q0, q1, q2, q8, q9, rfl⟩
      rw [lit_all hl']
      simp only [lit0, litS, Nat.reduceAdd, q0, q1, q2, q8, q9]
      by_cases hlt : (j : Int) < k
      case neg =>
        obtain rfl : j = k := by omega
        simp (disch := first | assumption | omega | (simp only [az]; done)) only [ru, eq_self, if_true, if_false, BEq.rfl, binI, AO.row?, splice, fillL, mmAll, loadV, storeV, zeros, Am.rowAt, Am.part, addOff, Nat.reduceAdd, Nat.reduceMul, Nat.reduceLeDiff, Nat.reduceSub, Nat.reduceLT, Int.reduceEq, Int.reduceLT, Int.reduceLE, Int.reduceGT, Int.reduceGE, Int.reduceAdd, Int.reduceSub, Int.reduceMul, Int.reduceNeg, Int.reduceToNat, reduceCtorEq, reduceIte, hlt, decide_false]
        exact ⟨fr, ho⟩
      obtain ⟨h1, o1, H5, v', h', v'', h'', A1, A2, A3, A4, fr2, ho2⟩ := step j hj0 (by omega) gk o fr ho
      simp (disch := first | assumption | omega | (simp only [az]; done)) only [ru, eq_self, if_true, if_false, BEq.rfl, binI, AO.row?, splice, fillL, mmAll, loadV, storeV, zeros, Am.rowAt, Am.part, addOff, Nat.reduceAdd, Nat.reduceMul, Nat.reduceLeDiff, Nat.reduceSub, Nat.reduceLT, Int.reduceEq, Int.reduceLT, Int.reduceLE, Int.reduceGT, Int.reduceGE, Int.reduceAdd, Int.reduceSub, Int.reduceMul, Int.reduceNeg, Int.reduceToNat, reduceCtorEq, reduceIte, hlt, decide_true, exOp_buildSlice, A1, A2, exOp_call0, A3, A4, atE, lenE]
      exact ihk (k - (j + 1)) _ _ _ (by omega) ⟨j + 1, v'', by omega, by omega, rfl, fr2, ho2, rfl, rfl, rfl, rfl, rfl, rfl, rfl⟩
    · rcases hF with ⟨rfl, _⟩ | ⟨hne, p, sh, rfl, hc⟩
      · exact absurd rfl hz
      have g1 : (F.length : Int) > 0 := by omega
      have last := hk (F.length - 1) (by omega)
      have hh : ((F.flatMap fun n => [I n]).drop (F.length - 1)).head? = some (I (F.getD (F.length - 1) 0)) := flat_head (by omega)
      obtain ⟨x, hx⟩ : ∃ x, x = F.getD (F.length - 1) 0 := ⟨_, rfl⟩
      have hfm : (frm F : Int) = x + 1 := by unfold frm; rw [if_neg hz, ← hx]; omega
      rw [← hx] at hh last
      have i1 : (0 : Int) ≤ (F.length : Int) - 1 := by omega
      have i2 : (F.length : Int) - 1 < F.length := by omega
      have i3 : ((F.length : Int) - 1).toNat = F.length - 1 := by omega
      obtain ⟨FC, hFC⟩ : ∃ c, c = F.flatMap fun n => [I n] := ⟨_, rfl⟩
      rw [← hFC] at hh hc
      simp (disch := first | assumption | omega | (simp only [az]; done)) only [ru, eq_self, if_true, if_false, BEq.rfl, binI, AO.row?, splice, fillL, mmAll, loadV, storeV, zeros, Am.rowAt, Am.part, addOff, Nat.reduceAdd, Nat.reduceMul, Nat.reduceLeDiff, Nat.reduceSub, Nat.reduceLT, Int.reduceEq, Int.reduceLT, Int.reduceLE, Int.reduceGT, Int.reduceGE, Int.reduceAdd, Int.reduceSub, Int.reduceMul, Int.reduceNeg, Int.reduceToNat, reduceCtorEq, reduceIte, hl, g1, i1, i2, i3, hc, hh, ← hfm, Nat.mul_one, Nat.zero_add, elemAt_ms, decide_true, decide_false]
      refine G_loop_ind (fun m ts gk mk => ∃ (j : Nat) (o : AV), frm F ≤ j ∧ j ≤ k ∧ m = k - j ∧ Fr g gk ∧ OutLL g.length gk o (enX k d F j) ∧ ts.length = 44 ∧ ts.getD 0 .undef = .ms 1 p 0 F.length ∧ ts.getD 1 .undef = I ((F.length + (d + 1) : Nat) : Int) ∧ ts.getD 2 .undef = I k ∧ ts.getD 8 .undef = o ∧ ts.getD 9 .undef = I j ∧ mk = []) ?_ _ _ _ _
        ⟨frm F, .nils, Nat.le_refl _, fl, rfl, st0.1, st0.2, rfl, rfl, rfl, rfl, rfl, rfl, rfl⟩
      rintro m ts gk mk ihk ⟨j, o, hj0, hjk, rfl, fr, ho, hl', q0, q1, q2, q8, q9, rfl⟩
      rw [lit_all hl']
      simp only [lit0, litS, Nat.reduceAdd, q0, q1, q2, q8, q9]
      by_cases hlt : (j : Int) < k
      case neg =>
        obtain rfl : j = k := by omega
        simp (disch := first | assumption | omega | (simp only [az]; done)) only [ru, eq_self, if_true, if_false, BEq.rfl, binI, AO.row?, splice, fillL, mmAll, loadV, storeV, zeros, Am.rowAt, Am.part, addOff, Nat.reduceAdd, Nat.reduceMul, Nat.reduceLeDiff, Nat.reduceSub, Nat.reduceLT, Int.reduceEq, Int.reduceLT, Int.reduceLE, Int.reduceGT, Int.reduceGE, Int.reduceAdd, Int.reduceSub, Int.reduceMul, Int.reduceNeg, Int.reduceToNat, reduceCtorEq, reduceIte, hlt, decide_false]
        exact ⟨fr, ho⟩
      obtain ⟨h1, o1, H5, v', h', v'', h'', A1, A2, A3, A4, fr2, ho2⟩ := step j hj0 (by omega) gk o fr ho
      simp (disch := first | assumption | omega | (simp only [az]; done)) only [ru, eq_self, if_true, if_false, BEq.rfl, binI, AO.row?, splice, fillL, mmAll, loadV, storeV, zeros, Am.rowAt, Am.part, addOff, Nat.reduceAdd, Nat.reduceMul, Nat.reduceLeDiff, Nat.reduceSub, Nat.reduceLT, Int.reduceEq, Int.reduceLT, Int.reduceLE, Int.reduceGT, Int.reduceGE, Int.reduceAdd, Int.reduceSub, Int.reduceMul, Int.reduceNeg, Int.reduceToNat, reduceCtorEq, reduceIte, hlt, decide_true, exOp_buildSlice, A1, A2, exOp_call0, A3, A4, atE, lenE]
      exact ihk (k - (j + 1)) _ _ _ (by omega) ⟨j + 1, v'', by omega, by omega, rfl, fr2, ho2, rfl, rfl, rfl, rfl, rfl, rfl, rfl⟩
theorem s124 {m k : Nat} (k8 : k ≤ 8) (m8 : m ≤ 8) (st : Bool) : Iso E 124 [.nils, I m, I k] st = some (resLL (enm qI k m [])) := by
  obtain ⟨v, g', hr, _, ho⟩ := r124 k8 m [] .nils [] 0 okE_nil (.inl ⟨rfl, rfl⟩) (Nat.zero_le _) (by simpa using m8)
  simp only [List.length_nil, Nat.zero_add] at hr
  simp only [Iso, hr]
  exact ho.view st
end Go.Proofs.Yteonklnjchefiaa.S

