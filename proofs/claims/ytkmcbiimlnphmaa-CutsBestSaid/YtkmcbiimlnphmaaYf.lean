/-
CutsBest: the best cut, and what a part's greater price gains.
-/
import Derived.Test.YtkmcbiimlnphmaaYe
namespace Go.Proofs.Ytkmcbiimlnphmaa.S
open Go Go.Am Go.Proofs.Ytkmcbiimlnphmaa.T
set_option maxRecDepth 100000
set_option linter.unusedSimpArgs false
set_option linter.unusedVariables false

theorem bst_R {R : List Int → List Int → Bool} (asy : ∀ {x y}, R x y = true → R y x = false) {f : List Int → Bool} {cost : List Int → Int} {l : List (List Int)} : l.Pairwise (fun x y => R x y = true) → ∀ {x : List Int}, bst f cost l = some x → (x ∈ l ∧ f x = true ∧ ∀ c ∈ l, f c = true → cost x ≤ cost c ∧ (cost c = cost x → R c x = false)) := by
  refine snocRec (fun l => l.Pairwise (fun x y => R x y = true) → ∀ {x : List Int}, bst f cost l = some x → (x ∈ l ∧ f x = true ∧ ∀ c ∈ l, f c = true → cost x ≤ cost c ∧ (cost c = cost x → R c x = false))) l (by intro _ x h; cases h) ?_
  intro l c ih hp x h
  rw [List.pairwise_append] at hp
  obtain ⟨hp, _, hc⟩ := hp
  rw [bst_snoc] at h
  unfold bstS at h
  split at h
  · rename_i hf
    split at h
    · rename_i e
      cases h
      refine ⟨by simp, hf, fun y hy hfy => ?_⟩
      rcases List.mem_append.1 hy with hy | hy
      · rw [bst_none.1 e y hy] at hfy; cases hfy
      · rw [List.mem_singleton] at hy; subst hy
        refine ⟨Int.le_refl _, fun _ => ?_⟩
        cases hh : R y y with
        | false => rfl
        | true => have := asy hh; rw [hh] at this; cases this
    · rename_i z e
      split at h
      · rename_i hlt
        cases h
        obtain ⟨h1, h2, h3⟩ := ih hp e
        refine ⟨by simp, hf, fun y hy hfy => ?_⟩
        rcases List.mem_append.1 hy with hy | hy
        · have := (h3 y hy hfy).1
          exact ⟨by omega, fun e => by omega⟩
        · rw [List.mem_singleton] at hy; subst hy
          refine ⟨Int.le_refl _, fun _ => ?_⟩
          cases hh : R y y with
          | false => rfl
          | true => have := asy hh; rw [hh] at this; cases this
      · rename_i hlt
        obtain ⟨h1, h2, h3⟩ := ih hp h
        rw [e] at h
        cases h
        refine ⟨by simp [h1], h2, fun y hy hfy => ?_⟩
        rcases List.mem_append.1 hy with hy | hy
        · exact h3 y hy hfy
        · rw [List.mem_singleton] at hy; subst hy
          exact ⟨by omega, fun _ => asy (hc _ h1 _ (by simp))⟩
  · rename_i hf
    obtain ⟨h1, h2, h3⟩ := ih hp h
    refine ⟨by simp [h1], h2, fun y hy hfy => ?_⟩
    rcases List.mem_append.1 hy with hy | hy
    · exact h3 y hy hfy
    · rw [List.mem_singleton] at hy; subst hy; exact absurd hfy hf
theorem ear_drop {l m : List Int} {i : Nat} (hi : i < l.length) (hj : i < m.length) : ear (l.drop i) (m.drop i) = if l.getD i 0 ≠ m.getD i 0 then decide (l.getD i 0 < m.getD i 0) else ear (l.drop (i + 1)) (m.drop (i + 1)) := by
  rw [List.drop_eq_getElem_cons hi, List.drop_eq_getElem_cons hj]
  simp only [ear, List.getD_eq_getElem?_getD, List.getElem?_eq_getElem hi, List.getElem?_eq_getElem hj, Option.getD_some]
theorem s44 {l m : List Int} {u v : AV} (U : IsSl 1 intL l u) (V : IsSl 1 intL m v) (hl : l.length ≤ 1000) (hm : m.length ≤ 1000) (st : Bool) : Iso E 44 [u, v] st = some (Bo (ear l m)) := by
  refine Iso_of (es _ _ _ _) e44 ?_
  simp only [f44]
  simp (disch := first | assumption | omega | (simp only [az]; done)) only [ru, eq_self, if_true, if_false, BEq.rfl, binI, AO.row?, splice, fillL, mmAll, loadV, storeV, zeros, Am.rowAt, Am.part, addOff, Nat.reduceAdd, Nat.reduceMul, Nat.reduceLeDiff, Nat.reduceSub, Nat.reduceLT, Int.reduceEq, Int.reduceLT, Int.reduceLE, Int.reduceGT, Int.reduceGE, Int.reduceAdd, Int.reduceSub, Int.reduceMul, Int.reduceNeg, Int.reduceToNat, reduceCtorEq, reduceIte]
  refine G_loop_ind (fun n ts h mk => ∃ i : Nat, i ≤ l.length ∧ i ≤ m.length ∧ n = l.length - i ∧ ear l m = ear (l.drop i) (m.drop i) ∧ ts.length = 36 ∧ ts.getD 0 .undef = u ∧ ts.getD 1 .undef = v ∧ ts.getD 5 .undef = I i ∧ h = [] ∧ mk = []) ?_ _ _ _ _ ⟨0, Nat.zero_le _, Nat.zero_le _, rfl, rfl, rfl, rfl, rfl, rfl, rfl, rfl⟩
  rintro n ts h mk ih ⟨i, hi, hi2, rfl, he, hl', q0, q1, q5, rfl, rfl⟩
  rw [lit_all hl']
  simp only [lit0, litS, Nat.reduceAdd, q0, q1, q5]
  by_cases h1 : i < l.length
  case neg =>
    have h1' : ¬ (i : Int) < l.length := by omega
    have ev : ear l m = false := by rw [he, List.drop_eq_nil_of_le (by omega)]; simp [ear]
    simp (disch := first | assumption | omega | (simp only [az]; done)) only [ru, eq_self, if_true, if_false, BEq.rfl, binI, AO.row?, splice, fillL, mmAll, loadV, storeV, zeros, Am.rowAt, Am.part, addOff, Nat.reduceAdd, Nat.reduceMul, Nat.reduceLeDiff, Nat.reduceSub, Nat.reduceLT, Int.reduceEq, Int.reduceLT, Int.reduceLE, Int.reduceGT, Int.reduceGE, Int.reduceAdd, Int.reduceSub, Int.reduceMul, Int.reduceNeg, Int.reduceToNat, reduceCtorEq, reduceIte, lenV_sl U, elem_in U, view_sl U, scalar_sl U, cells_sl U, pure_sl U, Int.toNat_natCast, lenV_sl V, elem_in V, view_sl V, scalar_sl V, cells_sl V, pure_sl V, Int.toNat_natCast, h1', gUn, ev, decide_false]
  by_cases h2 : i < m.length
  case neg =>
    have h1' : (i : Int) < l.length := by omega
    have h2' : ¬ (i : Int) < m.length := by omega
    have ev : ear l m = false := by
      rw [he, List.drop_eq_nil_of_le (show m.length ≤ i by omega)]
      cases l.drop i <;> simp [ear]
    simp (disch := first | assumption | omega | (simp only [az]; done)) only [ru, eq_self, if_true, if_false, BEq.rfl, binI, AO.row?, splice, fillL, mmAll, loadV, storeV, zeros, Am.rowAt, Am.part, addOff, Nat.reduceAdd, Nat.reduceMul, Nat.reduceLeDiff, Nat.reduceSub, Nat.reduceLT, Int.reduceEq, Int.reduceLT, Int.reduceLE, Int.reduceGT, Int.reduceGE, Int.reduceAdd, Int.reduceSub, Int.reduceMul, Int.reduceNeg, Int.reduceToNat, reduceCtorEq, reduceIte, lenV_sl U, elem_in U, view_sl U, scalar_sl U, cells_sl U, pure_sl U, Int.toNat_natCast, lenV_sl V, elem_in V, view_sl V, scalar_sl V, cells_sl V, pure_sl V, Int.toNat_natCast, h1', h2', gUn, ev, decide_false, decide_true]
  have h1' : (i : Int) < l.length := by omega
  have h2' : (i : Int) < m.length := by omega
  rw [ear_drop h1 h2] at he
  by_cases hc : l.getD i 0 = m.getD i 0
  · rw [if_neg (fun h => h hc)] at he
    simp (disch := first | assumption | omega | (simp only [az]; done)) only [ru, eq_self, if_true, if_false, BEq.rfl, binI, AO.row?, splice, fillL, mmAll, loadV, storeV, zeros, Am.rowAt, Am.part, addOff, Nat.reduceAdd, Nat.reduceMul, Nat.reduceLeDiff, Nat.reduceSub, Nat.reduceLT, Int.reduceEq, Int.reduceLT, Int.reduceLE, Int.reduceGT, Int.reduceGE, Int.reduceAdd, Int.reduceSub, Int.reduceMul, Int.reduceNeg, Int.reduceToNat, reduceCtorEq, reduceIte, lenV_sl U, elem_in U, view_sl U, scalar_sl U, cells_sl U, pure_sl U, Int.toNat_natCast, lenV_sl V, elem_in V, view_sl V, scalar_sl V, cells_sl V, pure_sl V, Int.toNat_natCast, h1', h2', hc, decide_true, Bool.not_true]
    exact ih (l.length - (i + 1)) _ _ _ (by omega) ⟨i + 1, by omega, by omega, rfl, he, rfl, rfl, rfl, rfl, rfl, rfl⟩
  · rw [if_pos hc] at he
    simp (disch := first | assumption | omega | (simp only [az]; done)) only [ru, eq_self, if_true, if_false, BEq.rfl, binI, AO.row?, splice, fillL, mmAll, loadV, storeV, zeros, Am.rowAt, Am.part, addOff, Nat.reduceAdd, Nat.reduceMul, Nat.reduceLeDiff, Nat.reduceSub, Nat.reduceLT, Int.reduceEq, Int.reduceLT, Int.reduceLE, Int.reduceGT, Int.reduceGE, Int.reduceAdd, Int.reduceSub, Int.reduceMul, Int.reduceNeg, Int.reduceToNat, reduceCtorEq, reduceIte, lenV_sl U, elem_in U, view_sl U, scalar_sl U, cells_sl U, pure_sl U, Int.toNat_natCast, lenV_sl V, elem_in V, view_sl V, scalar_sl V, cells_sl V, pure_sl V, Int.toNat_natCast, h1', h2', hc, decide_true, decide_false, Bool.not_false, he]

theorem bef_asym {x y : List Int} (h : bef x y = true) : bef y x = false := by
  simp only [bef, Bool.or_eq_true, Bool.and_eq_true, decide_eq_true_eq] at h
  rw [Bool.eq_false_iff]
  intro h2
  simp only [bef, Bool.or_eq_true, Bool.and_eq_true, decide_eq_true_eq] at h2
  rcases h with h | ⟨h, h'⟩ <;> rcases h2 with h2 | ⟨h2, h2'⟩
  · omega
  · omega
  · omega
  · rw [ear_asym h'] at h2'; cases h2'
theorem cut_of {a b : List Pt} (hl : a.length = b.length) (hc : ∀ i, canC a i = canC b i) (h : ∀ j, (a.getD j default).of = (b.getD j default).of) {l : List Int} : cutB a l = cutB b l := by
  have : cutAt a l = cutAt b l := by funext i; simp only [cutAt, hl, hc, thr, h]
  simp only [cutB, this]
section
variable {t : List Pt} {v w : AV} {l : List Int}
theorem best_spec : cutB t (bcut t) = true ∧ ∀ l, cutB t l = true → prc t l ≤ prc t (bcut t) ∧ (prc t l = prc t (bcut t) → bef l (bcut t) = false) := by
  obtain ⟨h1, _, h3⟩ := bst_R (R := bef) bef_asym (l := cutsL t) cuts_sorted (bcut_some (t := t))
  refine ⟨mem_cuts.1 h1, fun l hl => ?_⟩
  obtain ⟨h4, h5⟩ := h3 l (mem_cuts.2 hl) rfl
  exact ⟨by omega, fun e => h5 (by omega)⟩
theorem lin_drr {p : Nat} (hp : p < t.length) {u : Nat → Int} (hu : ∀ i, i < t.length → 0 ≤ u i) : ∀ {k : Nat}, k ≤ t.length → lin (rS t l) u k ≤ lin (rS (drr t p) l) u k ∧ lin (rS (drr t p) l) u k ≤ lin (rS t l) u k + lin (rA p) u k
  | 0, _ => ⟨Int.le_refl _, Int.le_refl _⟩
  | k + 1, hk => by
    obtain ⟨h1, h2⟩ := lin_drr hp hu (k := k) (by omega)
    have h3 := hu k (by omega)
    have tr : thr (drr t p) l k = thr t l k := by simp only [thr, (drr_of hp _).1]
    have e : rS (drr t p) l k = rS t l k ∨ rS (drr t p) l k = rS t l k + rA p k := by
      unfold rS
      rw [drr_len, tr, drr_at hp]
      by_cases hc : k < t.length ∧ thr t l k = true ∧ (k : Int) ∉ l
      · rw [if_pos hc, if_pos hc]
        by_cases e : k = p
        · subst e; right; simp [rA]
        · left; rw [if_neg e]
      · rw [if_neg hc, if_neg hc]; exact .inl rfl
    have ra : 0 ≤ rA p k := by unfold rA; split <;> omega
    have h5 := Int.mul_nonneg ra h3
    simp only [lin]
    rcases e with e | e
    · rw [e]; omega
    · rw [e, Int.add_mul]; omega
theorem drr_prc (hv : tval t = true) (h1 : is1 t = true) {p : Nat} (hp : p < t.length) : prc t l ≤ prc (drr t p) l ∧ prc (drr t p) l ≤ prc t l + hiV t (rA p) := by
  obtain ⟨T, h9⟩ := tval_iff.1 hv
  have D := drr_W T h9 hp
  have d1 : is1 (drr t p) = true := by rw [drr_is1 T h9 hp]; exact h1
  obtain ⟨⟨u, a, b⟩, c⟩ := loV_spec (r := rS t l) T.toTG h1
  obtain ⟨⟨u2, a2, b2⟩, c2⟩ := loV_spec (r := rS (drr t p) l) D.toTG d1
  obtain ⟨_, c3⟩ := hiV_spec (r := rA p) T.toTG h1
  have a2' := (drr_tru hp).1 a2
  have x1 := lin_drr (l := l) hp (fun i hi => (a2'.1 i hi).1.1) (Nat.le_refl _)
  have x2 := lin_drr (l := l) hp (fun i hi => (a.1 i hi).1.1) (Nat.le_refl _)
  have y1 := c u2 a2'
  have y2 := c2 u ((drr_tru hp).2 a)
  have y3 := c3 u a
  rw [drr_len] at b2 y2
  unfold prc
  omega
theorem gain_rng (hv : tval t = true) (h1 : is1 t = true) {p : Nat} (hp : p < t.length) : 0 ≤ gain t p ∧ gain t p ≤ hiV t (rA p) := by
  have e : ∀ l, cutB (drr t p) l = cutB t l := fun l => cut_of drr_len (drr_can hp) fun j => (drr_of hp j).1
  obtain ⟨b1, b2⟩ := best_spec (t := t)
  obtain ⟨d1, d2⟩ := best_spec (t := drr t p)
  have x1 := (d2 (bcut t) (by rw [e]; exact b1)).1
  have x2 := (b2 (bcut (drr t p)) (by rw [← e]; exact d1)).1
  have y1 := (drr_prc (l := bcut t) hv h1 hp).1
  have y2 := (drr_prc (l := bcut (drr t p)) hv h1 hp).2
  unfold gain
  omega
theorem price_of (hv : tval t = true) (h1 : is1 t = true) (H : TbOk t v) (hc : cutB t l = true) : (∀ st, Iso E 27 [v, slV 1 intL l] st = some (.tup [.agg [I (prc t l), I (hiV t (rS t l))], I 0])) ∧ 0 ≤ prc t l ∧ prc t l ≤ hiV t (rS t l) := by
  have T := tval_W hv
  have n8 := T.n
  have cl := cut_len hc
  refine ⟨fun st => ?_, prc_nn T h1, ?_⟩
  · rw [s27 H slV_is (by omega)]; simp only [askR, hv, hc, if_true, btw, h1]; rfl
  · obtain ⟨⟨u, a, b⟩, c⟩ := loV_spec (r := rS t l) T.toTG h1
    obtain ⟨_, c3⟩ := hiV_spec (r := rS t l) T.toTG h1
    have := c3 u a; unfold prc; omega
set_option maxHeartbeats 4000000 in
theorem s9 (H0 : TbIn t v) (V : IsSl 1 intL l w) (n : Int) : Iso E 9 [v, w, I n] false = some (Bo true) := by
  have g0 := fun st => s16 H0 st
  refine Iso_of (es _ _ _ _) e9 ?_
  simp only [f9]
  cases hv : tval t
  case false => simp (disch := first | assumption | omega | (simp only [az]; done)) only [ru, eq_self, if_true, if_false, BEq.rfl, binI, AO.row?, splice, fillL, mmAll, loadV, storeV, zeros, Am.rowAt, Am.part, addOff, Nat.reduceAdd, Nat.reduceMul, Nat.reduceLeDiff, Nat.reduceSub, Nat.reduceLT, Int.reduceEq, Int.reduceLT, Int.reduceLE, Int.reduceGT, Int.reduceGE, Int.reduceAdd, Int.reduceSub, Int.reduceMul, Int.reduceNeg, Int.reduceToNat, reduceCtorEq, reduceIte, lenV_sl H0.i, elem_pt H0.i, view_sl H0.i, scalar_sl H0.i, cells_sl H0.i, pure_sl H0.i, Int.toNat_natCast, lenV_sl V, elem_in V, view_sl V, scalar_sl V, cells_sl V, pure_sl V, Int.toNat_natCast, g0, hv, gUn, s18, Bool.false_and]
  have T := tval_W hv
  have n8 := T.n
  have n40 : t.length ≤ 40 := by omega
  have H : TbOk t v := ⟨H0.i, by omega⟩
  have g0 : ∀ st, Iso E 16 [v] st = some (Bo true) := fun st => by rw [g0, hv, decide_eq_true n40]; rfl
  by_cases hl : (l.length : Int) > 40
  · simp (disch := first | assumption | omega | (simp only [az]; done)) only [ru, eq_self, if_true, if_false, BEq.rfl, binI, AO.row?, splice, fillL, mmAll, loadV, storeV, zeros, Am.rowAt, Am.part, addOff, Nat.reduceAdd, Nat.reduceMul, Nat.reduceLeDiff, Nat.reduceSub, Nat.reduceLT, Int.reduceEq, Int.reduceLT, Int.reduceLE, Int.reduceGT, Int.reduceGE, Int.reduceAdd, Int.reduceSub, Int.reduceMul, Int.reduceNeg, Int.reduceToNat, reduceCtorEq, reduceIte, lenV_sl H0.i, elem_pt H0.i, view_sl H0.i, scalar_sl H0.i, cells_sl H0.i, pure_sl H0.i, Int.toNat_natCast, lenV_sl V, elem_in V, view_sl V, scalar_sl V, cells_sl V, pure_sl V, Int.toNat_natCast, g0, hl, gUn, s18, decide_true, Bool.not_true]
  have a1 := s46 H
  have a2 := fun st => s34 H T st
  simp only [cutO, hv, if_true] at a1
  cases h1 : is1 t
  · simp only [h1, Bool.false_eq_true, if_false] at a1
    simp (disch := first | assumption | omega | (simp only [az]; done)) only [ru, eq_self, if_true, if_false, BEq.rfl, binI, AO.row?, splice, fillL, mmAll, loadV, storeV, zeros, Am.rowAt, Am.part, addOff, Nat.reduceAdd, Nat.reduceMul, Nat.reduceLeDiff, Nat.reduceSub, Nat.reduceLT, Int.reduceEq, Int.reduceLT, Int.reduceLE, Int.reduceGT, Int.reduceGE, Int.reduceAdd, Int.reduceSub, Int.reduceMul, Int.reduceNeg, Int.reduceToNat, reduceCtorEq, reduceIte, lenV_sl H0.i, elem_pt H0.i, view_sl H0.i, scalar_sl H0.i, cells_sl H0.i, pure_sl H0.i, Int.toNat_natCast, lenV_sl V, elem_in V, view_sl V, scalar_sl V, cells_sl V, pure_sl V, Int.toNat_natCast, g0, hl, a1, a2, h1, s33, gUn, s18, decide_true, decide_false, Bool.not_true, Bool.or_true, Bool.or_false]
    done
  simp only [h1, if_true] at a1
  obtain ⟨B, hB⟩ : ∃ B, B = bcut t := ⟨_, rfl⟩
  obtain ⟨bc, bs⟩ := best_spec (t := t)
  rw [← hB] at bc bs a1
  have BV := resL_is B
  obtain ⟨bv, hbv⟩ : ∃ bv, bv = resL B := ⟨_, rfl⟩
  rw [← hbv] at BV a1
  have bl := cut_len bc
  have bl' : ¬ (B.length : Int) > t.length := by omega
  have a3 := fun st => s47 H T.toTG BV (by omega) st
  obtain ⟨p1, p2, p3⟩ := price_of hv h1 H bc
  obtain ⟨P, hP⟩ : ∃ P, P = prc t B := ⟨_, rfl⟩
  obtain ⟨Q, hQ⟩ : ∃ Q, Q = hiV t (rS t B) := ⟨_, rfl⟩
  rw [← hP] at p1 p2 p3 bs
  rw [← hQ] at p1 p3
  have np : ¬ P < 0 := by omega
  have nq : ¬ Q < P := by omega
  obtain ⟨w1, h1', A1, fr1, R1⟩ := cpyV (eb := 8) (lim := 0) (h := ([] : List AO)) BV intE intSc (by omega) (by omega) (Nat.zero_le _)
  simp only [apN, len0, List.nil_append, List.length_nil] at A1
  have vw1 := R1.view intE intIv (st := false) (k := 7)
  have sc1 := R1.sc
  obtain ⟨o, ho⟩ : ∃ o, o = h1'.length := ⟨_, rfl⟩
  obtain ⟨H2, hH2⟩ : ∃ H2, H2 = h1' ++ [AO.cells [I P, I Q] false] := ⟨_, rfl⟩
  have io : H2[o]? = some (.cells [I P, I Q] false) := by rw [hH2, ho]; exact atE
  have atO : ∀ X : AO, (h1' ++ [X])[o]? = some X := fun X => by rw [ho]; exact atE
  have stO : ∀ X Y : AO, (h1' ++ [X]).set o Y = h1' ++ [Y] := fun X Y => by rw [ho]; exact setE
  obtain ⟨bw, hbw⟩ : ∃ bw, bw = slV 1 intL B := ⟨_, rfl⟩
  have BW : IsSl 1 intL B bw := by rw [hbw]; exact slV_is
  rw [← hbw] at vw1 p1
  have a4 := fun st => s47 H T.toTG V (by omega) st
  simp (disch := first | assumption | omega | (simp only [az]; done)) only [ru, eq_self, if_true, if_false, BEq.rfl, binI, AO.row?, splice, fillL, mmAll, loadV, storeV, zeros, Am.rowAt, Am.part, addOff, Nat.reduceAdd, Nat.reduceMul, Nat.reduceLeDiff, Nat.reduceSub, Nat.reduceLT, Int.reduceEq, Int.reduceLT, Int.reduceLE, Int.reduceGT, Int.reduceGE, Int.reduceAdd, Int.reduceSub, Int.reduceMul, Int.reduceNeg, Int.reduceToNat, reduceCtorEq, reduceIte, lenV_sl H0.i, elem_pt H0.i, view_sl H0.i, scalar_sl H0.i, cells_sl H0.i, pure_sl H0.i, Int.toNat_natCast, lenV_sl V, elem_in V, view_sl V, scalar_sl V, cells_sl V, pure_sl V, Int.toNat_natCast, lenV_sl BV, elem_in BV, view_sl BV, scalar_sl BV, cells_sl BV, pure_sl BV, Int.toNat_natCast, g0, hl, a1, a2, h1, s33, bl', a3, bc, A1, vw1, sc1.1, sc1.2.1, lenV_sl BW, elem_in BW, view_sl BW, scalar_sl BW, cells_sl BW, pure_sl BW, Int.toNat_natCast, p1, np, nq, ← ho, atO, stO, ← hH2, io, a4, gUn, s18, decide_true, decide_false, Bool.not_true, Bool.or_true, Bool.or_false, Bool.true_or, bne_self_eq_false]
  refine GC_join (fun ts h mk => mk = [] ∧ ts.length = 161 ∧ ts.getD 0 .undef = v ∧ ts.getD 2 .undef = I n) (fun hg => ?_) (fun hg => ?_) ?_
  · obtain ⟨p4, p5, p6⟩ := price_of hv h1 H hg
    obtain ⟨b1, b2⟩ := bs l hg
    obtain ⟨P', hP'⟩ : ∃ P', P' = prc t l := ⟨_, rfl⟩
    obtain ⟨Q', hQ'⟩ : ∃ Q', Q' = hiV t (rS t l) := ⟨_, rfl⟩
    rw [← hP'] at p4 p5 p6 b1 b2
    rw [← hQ'] at p4 p6
    have cl := cut_len hg
    obtain ⟨w3, h3, A3, fr3, R3⟩ := cpyV (eb := 8) (lim := 0) (h := H2) V intE intSc (by omega) (by omega) (Nat.zero_le _)
    have vw3 := R3.view intE intIv (st := false) (k := 7)
    have sc3 := R3.sc
    obtain ⟨lw, hlw⟩ : ∃ lw, lw = slV 1 intL l := ⟨_, rfl⟩
    have LW : IsSl 1 intL l lw := by rw [hlw]; exact slV_is
    rw [← hlw] at vw3 p4
    have i3 : ∀ X : AO, (h3 ++ [X])[o]? = some (.cells [I P, I Q] false) := fun X => Fr.at (Fr.app _ _) (fr3.at io)
    have ng : ¬ P' > P := by omega
    by_cases c1 : (l.length : Int) < B.length
    · have ne : ¬ P' = P := fun e => by
        have := b2 e
        simp only [bef, Bool.or_eq_false_iff, decide_eq_false_iff_not] at this
        omega
      simp (disch := first | assumption | omega | (simp only [az]; done)) only [ru, eq_self, if_true, if_false, BEq.rfl, binI, AO.row?, splice, fillL, mmAll, loadV, storeV, zeros, Am.rowAt, Am.part, addOff, Nat.reduceAdd, Nat.reduceMul, Nat.reduceLeDiff, Nat.reduceSub, Nat.reduceLT, Int.reduceEq, Int.reduceLT, Int.reduceLE, Int.reduceGT, Int.reduceGE, Int.reduceAdd, Int.reduceSub, Int.reduceMul, Int.reduceNeg, Int.reduceToNat, reduceCtorEq, reduceIte, lenV_sl H0.i, elem_pt H0.i, view_sl H0.i, scalar_sl H0.i, cells_sl H0.i, pure_sl H0.i, Int.toNat_natCast, lenV_sl V, elem_in V, view_sl V, scalar_sl V, cells_sl V, pure_sl V, Int.toNat_natCast, lenV_sl BV, elem_in BV, view_sl BV, scalar_sl BV, cells_sl BV, pure_sl BV, Int.toNat_natCast, A3, vw3, sc3.1, sc3.2.1, lenV_sl LW, elem_in LW, view_sl LW, scalar_sl LW, cells_sl LW, pure_sl LW, Int.toNat_natCast, p4, c1, ng, ne, i3, atE, setE, lenE, Nat.le_refl, gUn, decide_true, decide_false, Bool.not_true, Bool.or_true, Bool.or_false, Bool.true_or, bne_self_eq_false, G_skip_nil]
    by_cases c2 : (l.length : Int) = B.length
    · have c1 : ¬ (B.length : Int) < B.length := by omega
      have a5 := fun st => s44 V BV (by omega) (by omega) st
      cases he : ear l B
      · simp (disch := first | assumption | omega | (simp only [az]; done)) only [ru, eq_self, if_true, if_false, BEq.rfl, binI, AO.row?, splice, fillL, mmAll, loadV, storeV, zeros, Am.rowAt, Am.part, addOff, Nat.reduceAdd, Nat.reduceMul, Nat.reduceLeDiff, Nat.reduceSub, Nat.reduceLT, Int.reduceEq, Int.reduceLT, Int.reduceLE, Int.reduceGT, Int.reduceGE, Int.reduceAdd, Int.reduceSub, Int.reduceMul, Int.reduceNeg, Int.reduceToNat, reduceCtorEq, reduceIte, lenV_sl H0.i, elem_pt H0.i, view_sl H0.i, scalar_sl H0.i, cells_sl H0.i, pure_sl H0.i, Int.toNat_natCast, lenV_sl V, elem_in V, view_sl V, scalar_sl V, cells_sl V, pure_sl V, Int.toNat_natCast, lenV_sl BV, elem_in BV, view_sl BV, scalar_sl BV, cells_sl BV, pure_sl BV, Int.toNat_natCast, A3, vw3, sc3.1, sc3.2.1, lenV_sl LW, elem_in LW, view_sl LW, scalar_sl LW, cells_sl LW, pure_sl LW, Int.toNat_natCast, p4, c1, c2, a5, he, ng, i3, atE, setE, lenE, Nat.le_refl, gUn, decide_true, decide_false, Bool.not_true, Bool.or_true, Bool.or_false, Bool.true_or, bne_self_eq_false, G_skip_nil]
      · have ne : ¬ P' = P := fun e => by
          have := b2 e
          rw [bef, he, Bool.and_true, Bool.or_eq_false_iff, decide_eq_false_iff_not, decide_eq_false_iff_not] at this
          omega
        simp (disch := first | assumption | omega | (simp only [az]; done)) only [ru, eq_self, if_true, if_false, BEq.rfl, binI, AO.row?, splice, fillL, mmAll, loadV, storeV, zeros, Am.rowAt, Am.part, addOff, Nat.reduceAdd, Nat.reduceMul, Nat.reduceLeDiff, Nat.reduceSub, Nat.reduceLT, Int.reduceEq, Int.reduceLT, Int.reduceLE, Int.reduceGT, Int.reduceGE, Int.reduceAdd, Int.reduceSub, Int.reduceMul, Int.reduceNeg, Int.reduceToNat, reduceCtorEq, reduceIte, lenV_sl H0.i, elem_pt H0.i, view_sl H0.i, scalar_sl H0.i, cells_sl H0.i, pure_sl H0.i, Int.toNat_natCast, lenV_sl V, elem_in V, view_sl V, scalar_sl V, cells_sl V, pure_sl V, Int.toNat_natCast, lenV_sl BV, elem_in BV, view_sl BV, scalar_sl BV, cells_sl BV, pure_sl BV, Int.toNat_natCast, A3, vw3, sc3.1, sc3.2.1, lenV_sl LW, elem_in LW, view_sl LW, scalar_sl LW, cells_sl LW, pure_sl LW, Int.toNat_natCast, p4, c1, c2, a5, he, ng, ne, i3, atE, setE, lenE, Nat.le_refl, gUn, decide_true, decide_false, Bool.not_true, Bool.or_true, Bool.or_false, Bool.true_or, bne_self_eq_false, G_skip_nil]
    · simp (disch := first | assumption | omega | (simp only [az]; done)) only [ru, eq_self, if_true, if_false, BEq.rfl, binI, AO.row?, splice, fillL, mmAll, loadV, storeV, zeros, Am.rowAt, Am.part, addOff, Nat.reduceAdd, Nat.reduceMul, Nat.reduceLeDiff, Nat.reduceSub, Nat.reduceLT, Int.reduceEq, Int.reduceLT, Int.reduceLE, Int.reduceGT, Int.reduceGE, Int.reduceAdd, Int.reduceSub, Int.reduceMul, Int.reduceNeg, Int.reduceToNat, reduceCtorEq, reduceIte, lenV_sl H0.i, elem_pt H0.i, view_sl H0.i, scalar_sl H0.i, cells_sl H0.i, pure_sl H0.i, Int.toNat_natCast, lenV_sl V, elem_in V, view_sl V, scalar_sl V, cells_sl V, pure_sl V, Int.toNat_natCast, lenV_sl BV, elem_in BV, view_sl BV, scalar_sl BV, cells_sl BV, pure_sl BV, Int.toNat_natCast, A3, vw3, sc3.1, sc3.2.1, lenV_sl LW, elem_in LW, view_sl LW, scalar_sl LW, cells_sl LW, pure_sl LW, Int.toNat_natCast, p4, c1, c2, ng, i3, atE, setE, lenE, Nat.le_refl, gUn, decide_true, decide_false, Bool.not_true, Bool.or_true, Bool.or_false, Bool.true_or, bne_self_eq_false, G_skip_nil]
  · simp (disch := first | assumption | omega | (simp only [az]; done)) only [ru, eq_self, if_true, if_false, BEq.rfl, binI, AO.row?, splice, fillL, mmAll, loadV, storeV, zeros, Am.rowAt, Am.part, addOff, Nat.reduceAdd, Nat.reduceMul, Nat.reduceLeDiff, Nat.reduceSub, Nat.reduceLT, Int.reduceEq, Int.reduceLT, Int.reduceLE, Int.reduceGT, Int.reduceGE, Int.reduceAdd, Int.reduceSub, Int.reduceMul, Int.reduceNeg, Int.reduceToNat, reduceCtorEq, reduceIte, G_skip_nil]
  rintro ts h mk ⟨rfl, tl, q0, q2⟩
  rw [lit_all tl]
  simp only [lit0, litS, Nat.reduceAdd, q0, q2]
  have d1 := fun st => s31 H n st
  cases hp : inR n 0 (t.length - 1)
  · simp (disch := first | assumption | omega | (simp only [az]; done)) only [ru, eq_self, if_true, if_false, BEq.rfl, binI, AO.row?, splice, fillL, mmAll, loadV, storeV, zeros, Am.rowAt, Am.part, addOff, Nat.reduceAdd, Nat.reduceMul, Nat.reduceLeDiff, Nat.reduceSub, Nat.reduceLT, Int.reduceEq, Int.reduceLT, Int.reduceLE, Int.reduceGT, Int.reduceGE, Int.reduceAdd, Int.reduceSub, Int.reduceMul, Int.reduceNeg, Int.reduceToNat, reduceCtorEq, reduceIte, lenV_sl H0.i, elem_pt H0.i, view_sl H0.i, scalar_sl H0.i, cells_sl H0.i, pure_sl H0.i, Int.toNat_natCast, d1, hp, gUn, s18, Bool.not_true, Bool.not_false]
  have hp' := inR_iff.1 hp
  obtain ⟨p, rfl⟩ : ∃ p : Nat, n = p := ⟨n.toNat, by omega⟩
  have hi : p < t.length := by omega
  have d2 := fun st => s32 H (p : Int) st
  have d3 := fun st => s48 H (p : Int) st
  have gr := gain_rng hv h1 hi
  simp only [askR, gaiR, hv, hp, if_true, Int.toNat_natCast, btw, h1] at d2 d3
  obtain ⟨g, hgg⟩ : ∃ g, g = gain t p := ⟨_, rfl⟩
  obtain ⟨m, hm⟩ : ∃ m, m = hiV t (rA p) := ⟨_, rfl⟩
  rw [← hgg, ← hm] at gr
  simp only [← hgg] at d3
  simp only [← hm] at d2
  have g1 : g ≥ 0 := gr.1
  have g2 := gr.2
  simp (disch := first | assumption | omega | (simp only [az]; done)) only [ru, eq_self, if_true, if_false, BEq.rfl, binI, AO.row?, splice, fillL, mmAll, loadV, storeV, zeros, Am.rowAt, Am.part, addOff, Nat.reduceAdd, Nat.reduceMul, Nat.reduceLeDiff, Nat.reduceSub, Nat.reduceLT, Int.reduceEq, Int.reduceLT, Int.reduceLE, Int.reduceGT, Int.reduceGE, Int.reduceAdd, Int.reduceSub, Int.reduceMul, Int.reduceNeg, Int.reduceToNat, reduceCtorEq, reduceIte, lenV_sl H0.i, elem_pt H0.i, view_sl H0.i, scalar_sl H0.i, cells_sl H0.i, pure_sl H0.i, Int.toNat_natCast, d1, hp, d2, d3, g1, g2, atE, setE, lenE, Nat.le_refl, gUn, s18, decide_true, decide_false, Bool.not_true, Bool.not_false]
end
end Go.Proofs.Ytkmcbiimlnphmaa.S

