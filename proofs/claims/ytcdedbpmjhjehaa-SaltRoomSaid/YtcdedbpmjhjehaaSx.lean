/-
SaltStocks.
-/
import Derived.Test.YtcdedbpmjhjehaaSw
namespace Go.Proofs.Ytcdedbpmjhjehaa.S
open Go Go.Am Go.Proofs.Ytcdedbpmjhjehaa.T
set_option maxRecDepth 100000
set_option linter.unusedSimpArgs false
set_option linter.unusedVariables false

theorem kp_all : ∀ {ps : List Pr} {x : List Int}, ps.length = x.length → (∀ c ∈ x, c ≠ -1) → kpP ps x = ps
  | [], [], _, _ => rfl
  | [], a :: x, h, _ => by simp at h
  | q :: ps, [], h, _ => by simp at h
  | q :: ps, a :: x, h, hc => by
    have ih := kp_all (ps := ps) (x := x) (by simpa using h) fun c hcc => hc c (by simp [hcc])
    have ha := hc a (by simp)
    unfold kpP at ih ⊢
    simp [ha]; simpa using ih
theorem kp_sub {ps : List Pr} {x : List Int} (h : ps.length = x.length) : (kpP ps x).Sublist ps := by
  obtain ⟨m, _, e⟩ := sel_of h
  rw [← e]; exact selR_sub
theorem kp_full : ∀ {ps : List Pr} {x : List Int}, ps.length = x.length → PG ps → (∀ q ∈ ps, q.p ≠ 0) → lbP (kpP ps x) = lbP ps → ∀ c ∈ x, c ≠ -1
  | [], [], _, _, _, _ => by simp
  | [], a :: x, h, _, _, _ => by simp at h
  | q :: ps, [], h, _, _, _ => by simp at h
  | q :: ps, a :: x, h, P, hn, he => by
    have hl : ps.length = x.length := by simpa using h
    have P' : PG ps := fun r hr => P r (by simp [hr])
    have hq := P q (by simp)
    have hq0 := hn q (by simp)
    have le := lb_sub (kp_sub hl) P'
    have e0 : lbP (q :: ps) = q.p + lbP ps := rfl
    by_cases ha : a = -1
    · have e1 : kpP (q :: ps) (a :: x) = kpP ps x := by unfold kpP; simp [ha]
      rw [e1, e0] at he
      omega
    · have e1 : kpP (q :: ps) (a :: x) = q :: kpP ps x := by unfold kpP; simp [ha]
      have e2 : lbP (q :: kpP ps x) = q.p + lbP (kpP ps x) := rfl
      rw [e1, e0, e2] at he
      have ih := kp_full hl P' (fun r hr => hn r (by simp [hr])) (by omega)
      intro c hc
      rcases List.mem_cons.1 hc with rfl | hc
      · exact ha
      · exact ih c hc
section
variable {h : Hs} {k p b : AV}
theorem lbl_bd (G : HG h) {x : List Int} (P : Pko h x) : 0 ≤ h.lbl x ∧ h.lbl x ≤ h.all := by
  have e : h.lbl x = lbP (kpP h.ps x) := by unfold Hs.lbl; rw [laid_kp (by rw [P.l]; exact Nat.le_refl _)]
  have hs := kp_sub (ps := h.ps) (x := x) P.l.symm
  rw [e]
  exact ⟨(lb_bd (G.pg.sub hs.subset)).1, lb_sub hs G.pg⟩
theorem lbl_all {x : List Int} (P : Pkg h x) : h.lbl x = h.all := by
  unfold Hs.lbl Hs.all
  rw [laid_kp (by rw [P.l]; exact Nat.le_refl _), kp_all P.l.symm fun c hc => by have := P.c c hc; omega]
theorem sto_mono (G : HG h) {s t : Int} (hst : s ≤ t) : mst (h.sto s) h.po ≤ mst (h.sto t) h.po := mst_mono fun c hc => by
  have := (lbl_bd G (G.mem_po.1 hc)).1
  unfold Hs.sto
  split
  · rw [if_pos (by omega)]; exact Int.le_refl _
  · split <;> omega
theorem sto_le (G : HG h) {s : Int} : mst (h.sto s) h.po ≤ h.all := mst_le (all_nonneg G) fun c hc => by
  have := lbl_bd G (G.mem_po.1 hc)
  have := all_nonneg G
  unfold Hs.sto
  split <;> omega
theorem sto_is (G : HG h) {s : Int} (hp : h.pk ≠ []) (hm : lsf h.sa h.pk ≤ s) : mst (h.sto s) h.po = h.all := by
  apply Int.le_antisymm (sto_le G)
  obtain ⟨⟨x, hx, ex⟩, _⟩ := lsf_spec (f := h.sa) hp
  have P := G.mem_pk.1 hx
  have := (mst_ge (f := h.sto s) (l := h.po)).2 x (G.mem_po.2 P.o)
  have e : h.sto s x = h.all := by unfold Hs.sto; rw [if_pos (by omega), lbl_all P]
  rw [e] at this; exact this
theorem sto_of (G : HG h) {s : Int} (hs : 0 ≤ s) (hb : ∀ q ∈ h.ps, q.p ≠ 0) (ha : mst (h.sto s) h.po = h.all) : h.pk ≠ [] ∧ lsf h.sa h.pk ≤ s := by
  have main : ∀ x, Pko h x → h.lbl x = h.all → h.sa x ≤ s → h.pk ≠ [] ∧ lsf h.sa h.pk ≤ s := by
    intro x P hl hsa
    have e : h.lbl x = lbP (kpP h.ps x) := by unfold Hs.lbl; rw [laid_kp (by rw [P.l]; exact Nat.le_refl _)]
    rw [e] at hl
    have hc := kp_full P.l.symm G.pg hb hl
    have hx : x ∈ h.pk := G.mem_pk.2 ⟨P.l, fun c hcc => by have := P.c c hcc; have := hc c hcc; omega, P.f⟩
    have hne : h.pk ≠ [] := fun e => by rw [e] at hx; cases hx
    exact ⟨hne, Int.le_trans ((lsf_spec (f := h.sa) hne).2 x hx) hsa⟩
  rcases mst_at (f := h.sto s) (l := h.po) with e | ⟨x, hx, e⟩
  · have h0 : h.all = 0 := by rw [← ha, e]
    have hps : h.ps = [] := by
      cases hq : h.ps with
      | nil => rfl
      | cons q ps =>
        have h1 := G.pg q (by rw [hq]; simp)
        have h2 := hb q (by rw [hq]; simp)
        have h3 : h.all = q.p + lbP ps := by unfold Hs.all; rw [hq]; rfl
        have h4 := (lb_bd (l := ps) fun r hr => G.pg r (by rw [hq]; simp [hr])).1
        omega
    refine main [] ⟨by rw [hps]; rfl, by simp, ft_nil G⟩ ?_ ?_
    · rw [h0]; simp [Hs.lbl, laid, idx, Hs.pts, lbP, sm]
    · have : h.sa [] = 0 := by
        have e : h.sa [] = sums h.bs.length fun _ => 0 := sums_congr fun b _ => by simp [prs, slP]
        have z : ∀ m : Nat, sums m (fun _ => (0 : Int)) = 0 := by
          intro m
          induction m with
          | zero => rfl
          | succ m ih => rw [sums_succ, ih]; rfl
        rw [e, z]
      omega
  · have P := G.mem_po.1 hx
    by_cases hsa : h.sa x ≤ s
    · refine main x P ?_ hsa
      have e2 : h.sto s x = h.lbl x := by unfold Hs.sto; rw [if_pos hsa]
      rw [← e2, e, ha]
    · have e2 : h.sto s x = 0 := by unfold Hs.sto; rw [if_neg hsa]
      have h0 : h.all = 0 := by rw [← ha, ← e, e2]
      have hps : h.ps = [] := by
        cases hq : h.ps with
        | nil => rfl
        | cons q ps =>
          have h1 := G.pg q (by rw [hq]; simp)
          have h2 := hb q (by rw [hq]; simp)
          have h3 : h.all = q.p + lbP ps := by unfold Hs.all; rw [hq]; rfl
          have h4 := (lb_bd (l := ps) fun r hr => G.pg r (by rw [hq]; simp [hr])).1
          omega
      have : x = [] := List.eq_nil_of_length_eq_zero (by rw [P.l, hps]; rfl)
      subst this
      exfalso; apply hsa
      have e : h.sa [] = sums h.bs.length fun _ => 0 := sums_congr fun b _ => by simp [prs, slP]
      have z : ∀ m : Nat, sums m (fun _ => (0 : Int)) = 0 := by
        intro m
        induction m with
        | zero => rfl
        | succ m ih => rw [sums_succ, ih]; rfl
      rw [e, z]; exact hs
def bareB (ps : List Pr) : Bool := ps.any fun q => decide (q.p = 0)
set_option maxHeartbeats 8000000 in
theorem s12 (H0 : HsIn h k p b) (x y : Int) : Iso E 12 [hsV h.fl k p b, I x, I y] false = some (Bo true) := by
  have a0 := fun st => s46 H0 st
  simp only [hsV] at a0
  refine Iso_of (es _ _ _ _) e12 ?_
  simp only [f12, hsV]
  cases hr : h.rdy
  · simp (disch := first | assumption | omega | (simp only [az]; done)) only [ru, eq_self, if_true, if_false, BEq.rfl, binI, AO.row?, splice, fillL, mmAll, loadV, storeV, zeros, Am.rowAt, Am.part, addOff, Nat.reduceAdd, Nat.reduceMul, Nat.reduceLeDiff, Nat.reduceSub, Nat.reduceLT, Int.reduceEq, Int.reduceLT, Int.reduceLE, Int.reduceGT, Int.reduceGE, Int.reduceAdd, Int.reduceSub, Int.reduceMul, Int.reduceNeg, Int.reduceToNat, reduceCtorEq, reduceIte, lenV_sl H0.k, lenV_sl H0.p, lenV_sl H0.b, elem_kd H0.k, elem_pr H0.p, elem_in H0.b, view_sl H0.k, view_sl H0.p, view_sl H0.b, scalar_sl H0.k, scalar_sl H0.p, scalar_sl H0.b, cells_sl H0.k, cells_sl H0.p, cells_sl H0.b, pure_sl H0.k, pure_sl H0.p, pure_sl H0.b, Int.toNat_natCast, a0, hr, s16, gUn, Bool.not_false]
  cases hx : inR x 0 999
  · simp (disch := first | assumption | omega | (simp only [az]; done)) only [ru, eq_self, if_true, if_false, BEq.rfl, binI, AO.row?, splice, fillL, mmAll, loadV, storeV, zeros, Am.rowAt, Am.part, addOff, Nat.reduceAdd, Nat.reduceMul, Nat.reduceLeDiff, Nat.reduceSub, Nat.reduceLT, Int.reduceEq, Int.reduceLT, Int.reduceLE, Int.reduceGT, Int.reduceGE, Int.reduceAdd, Int.reduceSub, Int.reduceMul, Int.reduceNeg, Int.reduceToNat, reduceCtorEq, reduceIte, lenV_sl H0.k, lenV_sl H0.p, lenV_sl H0.b, elem_kd H0.k, elem_pr H0.p, elem_in H0.b, view_sl H0.k, view_sl H0.p, view_sl H0.b, scalar_sl H0.k, scalar_sl H0.p, scalar_sl H0.b, cells_sl H0.k, cells_sl H0.p, cells_sl H0.b, pure_sl H0.k, pure_sl H0.p, pure_sl H0.b, Int.toNat_natCast, a0, hr, s60, hx, s16, gUn, Bool.not_true, Bool.not_false]
  cases hy : inR y 0 999
  · simp (disch := first | assumption | omega | (simp only [az]; done)) only [ru, eq_self, if_true, if_false, BEq.rfl, binI, AO.row?, splice, fillL, mmAll, loadV, storeV, zeros, Am.rowAt, Am.part, addOff, Nat.reduceAdd, Nat.reduceMul, Nat.reduceLeDiff, Nat.reduceSub, Nat.reduceLT, Int.reduceEq, Int.reduceLT, Int.reduceLE, Int.reduceGT, Int.reduceGE, Int.reduceAdd, Int.reduceSub, Int.reduceMul, Int.reduceNeg, Int.reduceToNat, reduceCtorEq, reduceIte, lenV_sl H0.k, lenV_sl H0.p, lenV_sl H0.b, elem_kd H0.k, elem_pr H0.p, elem_in H0.b, view_sl H0.k, view_sl H0.p, view_sl H0.b, scalar_sl H0.k, scalar_sl H0.p, scalar_sl H0.b, cells_sl H0.k, cells_sl H0.p, cells_sl H0.b, pure_sl H0.k, pure_sl H0.p, pure_sl H0.b, Int.toNat_natCast, a0, hr, s60, hx, hy, s16, gUn, Bool.not_true, Bool.not_false]
  have H := rdy_ok H0 hr
  have G := (rdy_iff.1 hr).1
  have np := G.np
  have a49 := fun st => s49 H G st
  have a53 := fun st => s53 H G st
  have hv := valid_iff.2 G
  have lo := mmx_in (q := false) hx hy
  have hi := mmx_in (q := true) hx hy
  have le := mmx_le (x := x) (y := y)
  have a1 := fun st => s42 H (mmx false x y) st
  have a2 := fun st => s42 H (mmx true x y) st
  have k0 := (mst_ge (f := h.sto (mmx false x y)) (l := h.po)).1
  have k1 := sto_mono G le
  have k2 := sto_le G (s := mmx true x y)
  have sis := sto_is G (s := mmx false x y)
  have sof := sto_of G (s := mmx false x y) (inR_iff.1 lo).1
  simp only [hsV, ansN, askS, hv, lo, hi, if_true] at a49 a53 a1 a2
  obtain ⟨A, hA⟩ : ∃ A, A = mst (h.sto (mmx false x y)) h.po := ⟨_, rfl⟩
  obtain ⟨B, hB⟩ : ∃ B, B = mst (h.sto (mmx true x y)) h.po := ⟨_, rfl⟩
  obtain ⟨C, hC⟩ : ∃ C, C = h.all := ⟨_, rfl⟩
  obtain ⟨M, hM⟩ : ∃ M, M = lsf h.sa h.pk := ⟨_, rfl⟩
  rw [← hA] at a1 k0 k1
  rw [← hB] at a2 k1 k2
  rw [← hC] at a53 k2
  rw [← hM] at a49
  rw [← hA, ← hC, ← hM] at sis
  rw [← hA, ← hC, ← hM] at sof
  obtain ⟨lw, hlw⟩ : ∃ lw, lw = mmx false x y := ⟨_, rfl⟩
  have n0 : ¬ A < 0 := by omega
  have n1 : ¬ A > B := by omega
  have n2 : ¬ B > C := by omega
  simp (disch := first | assumption | omega | (simp only [az]; done)) only [ru, eq_self, if_true, if_false, BEq.rfl, binI, AO.row?, splice, fillL, mmAll, loadV, storeV, zeros, Am.rowAt, Am.part, addOff, Nat.reduceAdd, Nat.reduceMul, Nat.reduceLeDiff, Nat.reduceSub, Nat.reduceLT, Int.reduceEq, Int.reduceLT, Int.reduceLE, Int.reduceGT, Int.reduceGE, Int.reduceAdd, Int.reduceSub, Int.reduceMul, Int.reduceNeg, Int.reduceToNat, reduceCtorEq, reduceIte, lenV_sl H.k, lenV_sl H.p, lenV_sl H.b, elem_kd H.k, elem_pr H.p, elem_in H.b, view_sl H.k, view_sl H.p, view_sl H.b, scalar_sl H.k, scalar_sl H.p, scalar_sl H.b, cells_sl H.k, cells_sl H.p, cells_sl H.b, pure_sl H.k, pure_sl H.p, pure_sl H.b, Int.toNat_natCast, a0, hr, s60, hx, hy, a49, a1, a2, a53, n0, n1, n2, gUn, Bool.not_true, Bool.not_false, decide_true, decide_false]
  refine G_loop_ind (fun m ts hh mk => ∃ i : Nat, i ≤ h.ps.length ∧ m = h.ps.length - i ∧ ts.length = 132 ∧ ts.getD 1 .undef = I x ∧ ts.getD 2 .undef = I y ∧ ts.getD 3 .undef = .ptr 0 0 ∧ ts.getD 7 .undef = I A ∧ ts.getD 11 .undef = I M ∧ ts.getD 13 .undef = Bo (decide (h.pk ≠ [])) ∧ ts.getD 15 .undef = Bo (bareB (h.ps.take i)) ∧ ts.getD 16 .undef = I i ∧ hh = [HHC h k p b] ∧ mk = []) ?_ _ _ _ _ ⟨0, Nat.zero_le _, rfl, rfl, rfl, rfl, rfl, rfl, rfl, rfl, rfl, rfl, rfl, rfl⟩
  rintro m ts hh mk ih ⟨i, hi', rfl, hl', q1, q2, q3, q7, q11, q13, q15, q16, rfl, rfl⟩
  rw [lit_all hl']
  simp only [lit0, litS, Nat.reduceAdd, q1, q2, q3, q7, q11, q13, q15, q16]
  simp (disch := first | assumption | omega | (simp only [az]; done)) only [ru, eq_self, if_true, if_false, BEq.rfl, binI, AO.row?, splice, fillL, mmAll, loadV, storeV, zeros, Am.rowAt, Am.part, addOff, Nat.reduceAdd, Nat.reduceMul, Nat.reduceLeDiff, Nat.reduceSub, Nat.reduceLT, Int.reduceEq, Int.reduceLT, Int.reduceLE, Int.reduceGT, Int.reduceGE, Int.reduceAdd, Int.reduceSub, Int.reduceMul, Int.reduceNeg, Int.reduceToNat, reduceCtorEq, reduceIte, lenV_sl H.k, lenV_sl H.p, lenV_sl H.b, elem_kd H.k, elem_pr H.p, elem_in H.b, view_sl H.k, view_sl H.p, view_sl H.b, scalar_sl H.k, scalar_sl H.p, scalar_sl H.b, cells_sl H.k, cells_sl H.p, cells_sl H.b, pure_sl H.k, pure_sl H.p, pure_sl H.b, Int.toNat_natCast]
  by_cases hlt : (i : Int) < h.ps.length
  case pos =>
    have hi2 : i < h.ps.length := by omega
    have et : bareB (h.ps.take (i + 1)) = (bareB (h.ps.take i) || decide ((h.ps.getD i default).p = 0)) := by
      unfold bareB
      rw [take_snoc (d := default) hi2, List.any_append]; simp
    obtain ⟨q, hq⟩ : ∃ q, q = h.ps.getD i default := ⟨_, rfl⟩
    rw [← hq] at et
    cases hb : bareB (h.ps.take i)
    · rw [hb, Bool.false_or] at et
      simp (disch := first | assumption | omega | (simp only [az]; done)) only [ru, eq_self, if_true, if_false, BEq.rfl, binI, AO.row?, splice, fillL, mmAll, loadV, storeV, zeros, Am.rowAt, Am.part, addOff, Nat.reduceAdd, Nat.reduceMul, Nat.reduceLeDiff, Nat.reduceSub, Nat.reduceLT, Int.reduceEq, Int.reduceLT, Int.reduceLE, Int.reduceGT, Int.reduceGE, Int.reduceAdd, Int.reduceSub, Int.reduceMul, Int.reduceNeg, Int.reduceToNat, reduceCtorEq, reduceIte, lenV_sl H.k, lenV_sl H.p, lenV_sl H.b, elem_kd H.k, elem_pr H.p, elem_in H.b, view_sl H.k, view_sl H.p, view_sl H.b, scalar_sl H.k, scalar_sl H.p, scalar_sl H.b, cells_sl H.k, cells_sl H.p, cells_sl H.b, pure_sl H.k, pure_sl H.p, pure_sl H.b, Int.toNat_natCast, hlt, hb, ← hq, gUn]
      exact ih (h.ps.length - (i + 1)) _ _ _ (by omega) ⟨i + 1, by omega, rfl, rfl, rfl, rfl, rfl, rfl, rfl, rfl, by rw [et]; rfl, rfl, rfl, rfl⟩
    · rw [hb, Bool.true_or] at et
      simp (disch := first | assumption | omega | (simp only [az]; done)) only [ru, eq_self, if_true, if_false, BEq.rfl, binI, AO.row?, splice, fillL, mmAll, loadV, storeV, zeros, Am.rowAt, Am.part, addOff, Nat.reduceAdd, Nat.reduceMul, Nat.reduceLeDiff, Nat.reduceSub, Nat.reduceLT, Int.reduceEq, Int.reduceLT, Int.reduceLE, Int.reduceGT, Int.reduceGE, Int.reduceAdd, Int.reduceSub, Int.reduceMul, Int.reduceNeg, Int.reduceToNat, reduceCtorEq, reduceIte, lenV_sl H.k, lenV_sl H.p, lenV_sl H.b, elem_kd H.k, elem_pr H.p, elem_in H.b, view_sl H.k, view_sl H.p, view_sl H.b, scalar_sl H.k, scalar_sl H.p, scalar_sl H.b, cells_sl H.k, cells_sl H.p, cells_sl H.b, pure_sl H.k, pure_sl H.p, pure_sl H.b, Int.toNat_natCast, hlt, hb, ← hq, gUn]
      exact ih (h.ps.length - (i + 1)) _ _ _ (by omega) ⟨i + 1, by omega, rfl, rfl, rfl, rfl, rfl, rfl, rfl, rfl, by rw [et]; rfl, rfl, rfl, rfl⟩
  obtain rfl : i = h.ps.length := by omega
  rw [List.take_length]
  rw [hlw.symm] at sis sof
  by_cases hp : h.pk = []
  · have z1 : decide (h.pk ≠ []) = false := decide_eq_false fun hn => hn hp
    cases hb : bareB h.ps
    · have hne : ¬ A = C := fun e => (sof (fun q hq e0 => by
        have : bareB h.ps = true := List.any_eq_true.2 ⟨q, hq, decide_eq_true e0⟩
        rw [hb] at this; cases this) e).1 hp
      simp (disch := first | assumption | omega | (simp only [az]; done)) only [ru, eq_self, if_true, if_false, BEq.rfl, binI, AO.row?, splice, fillL, mmAll, loadV, storeV, zeros, Am.rowAt, Am.part, addOff, Nat.reduceAdd, Nat.reduceMul, Nat.reduceLeDiff, Nat.reduceSub, Nat.reduceLT, Int.reduceEq, Int.reduceLT, Int.reduceLE, Int.reduceGT, Int.reduceGE, Int.reduceAdd, Int.reduceSub, Int.reduceMul, Int.reduceNeg, Int.reduceToNat, reduceCtorEq, reduceIte, lenV_sl H.k, lenV_sl H.p, lenV_sl H.b, elem_kd H.k, elem_pr H.p, elem_in H.b, view_sl H.k, view_sl H.p, view_sl H.b, scalar_sl H.k, scalar_sl H.p, scalar_sl H.b, cells_sl H.k, cells_sl H.p, cells_sl H.b, pure_sl H.k, pure_sl H.p, pure_sl H.b, Int.toNat_natCast, a53, hlt, hb, z1, ← hlw, hne, s16, gUn, Bool.not_false, Bool.not_true, decide_false, decide_true]
      done
    · simp (disch := first | assumption | omega | (simp only [az]; done)) only [ru, eq_self, if_true, if_false, BEq.rfl, binI, AO.row?, splice, fillL, mmAll, loadV, storeV, zeros, Am.rowAt, Am.part, addOff, Nat.reduceAdd, Nat.reduceMul, Nat.reduceLeDiff, Nat.reduceSub, Nat.reduceLT, Int.reduceEq, Int.reduceLT, Int.reduceLE, Int.reduceGT, Int.reduceGE, Int.reduceAdd, Int.reduceSub, Int.reduceMul, Int.reduceNeg, Int.reduceToNat, reduceCtorEq, reduceIte, lenV_sl H.k, lenV_sl H.p, lenV_sl H.b, elem_kd H.k, elem_pr H.p, elem_in H.b, view_sl H.k, view_sl H.p, view_sl H.b, scalar_sl H.k, scalar_sl H.p, scalar_sl H.b, cells_sl H.k, cells_sl H.p, cells_sl H.b, pure_sl H.k, pure_sl H.p, pure_sl H.b, Int.toNat_natCast, a53, hlt, hb, z1, ← hlw, s16, gUn, Bool.not_false, Bool.not_true, decide_false, decide_true]
      done
  · have z1 : decide (h.pk ≠ []) = true := decide_eq_true hp
    by_cases hle : M ≤ lw
    · have hAC : A = C := sis hp hle
      cases hb : bareB h.ps
      · simp (disch := first | assumption | omega | (simp only [az]; done)) only [ru, eq_self, if_true, if_false, BEq.rfl, binI, AO.row?, splice, fillL, mmAll, loadV, storeV, zeros, Am.rowAt, Am.part, addOff, Nat.reduceAdd, Nat.reduceMul, Nat.reduceLeDiff, Nat.reduceSub, Nat.reduceLT, Int.reduceEq, Int.reduceLT, Int.reduceLE, Int.reduceGT, Int.reduceGE, Int.reduceAdd, Int.reduceSub, Int.reduceMul, Int.reduceNeg, Int.reduceToNat, reduceCtorEq, reduceIte, lenV_sl H.k, lenV_sl H.p, lenV_sl H.b, elem_kd H.k, elem_pr H.p, elem_in H.b, view_sl H.k, view_sl H.p, view_sl H.b, scalar_sl H.k, scalar_sl H.p, scalar_sl H.b, cells_sl H.k, cells_sl H.p, cells_sl H.b, pure_sl H.k, pure_sl H.p, pure_sl H.b, Int.toNat_natCast, a53, hlt, hb, z1, ← hlw, hle, hAC, s16, gUn, Bool.not_false, Bool.not_true, decide_false, decide_true]
        done
      · simp (disch := first | assumption | omega | (simp only [az]; done)) only [ru, eq_self, if_true, if_false, BEq.rfl, binI, AO.row?, splice, fillL, mmAll, loadV, storeV, zeros, Am.rowAt, Am.part, addOff, Nat.reduceAdd, Nat.reduceMul, Nat.reduceLeDiff, Nat.reduceSub, Nat.reduceLT, Int.reduceEq, Int.reduceLT, Int.reduceLE, Int.reduceGT, Int.reduceGE, Int.reduceAdd, Int.reduceSub, Int.reduceMul, Int.reduceNeg, Int.reduceToNat, reduceCtorEq, reduceIte, lenV_sl H.k, lenV_sl H.p, lenV_sl H.b, elem_kd H.k, elem_pr H.p, elem_in H.b, view_sl H.k, view_sl H.p, view_sl H.b, scalar_sl H.k, scalar_sl H.p, scalar_sl H.b, cells_sl H.k, cells_sl H.p, cells_sl H.b, pure_sl H.k, pure_sl H.p, pure_sl H.b, Int.toNat_natCast, a53, hlt, hb, z1, ← hlw, hle, hAC, s16, gUn, Bool.not_false, Bool.not_true, decide_false, decide_true]
        done
    · cases hb : bareB h.ps
      · have hne : ¬ A = C := fun e => hle (sof (fun q hq e0 => by
          have : bareB h.ps = true := List.any_eq_true.2 ⟨q, hq, decide_eq_true e0⟩
          rw [hb] at this; cases this) e).2
        simp (disch := first | assumption | omega | (simp only [az]; done)) only [ru, eq_self, if_true, if_false, BEq.rfl, binI, AO.row?, splice, fillL, mmAll, loadV, storeV, zeros, Am.rowAt, Am.part, addOff, Nat.reduceAdd, Nat.reduceMul, Nat.reduceLeDiff, Nat.reduceSub, Nat.reduceLT, Int.reduceEq, Int.reduceLT, Int.reduceLE, Int.reduceGT, Int.reduceGE, Int.reduceAdd, Int.reduceSub, Int.reduceMul, Int.reduceNeg, Int.reduceToNat, reduceCtorEq, reduceIte, lenV_sl H.k, lenV_sl H.p, lenV_sl H.b, elem_kd H.k, elem_pr H.p, elem_in H.b, view_sl H.k, view_sl H.p, view_sl H.b, scalar_sl H.k, scalar_sl H.p, scalar_sl H.b, cells_sl H.k, cells_sl H.p, cells_sl H.b, pure_sl H.k, pure_sl H.p, pure_sl H.b, Int.toNat_natCast, a53, hlt, hb, z1, ← hlw, hle, hne, s16, gUn, Bool.not_false, Bool.not_true, decide_false, decide_true]
        done
      · simp (disch := first | assumption | omega | (simp only [az]; done)) only [ru, eq_self, if_true, if_false, BEq.rfl, binI, AO.row?, splice, fillL, mmAll, loadV, storeV, zeros, Am.rowAt, Am.part, addOff, Nat.reduceAdd, Nat.reduceMul, Nat.reduceLeDiff, Nat.reduceSub, Nat.reduceLT, Int.reduceEq, Int.reduceLT, Int.reduceLE, Int.reduceGT, Int.reduceGE, Int.reduceAdd, Int.reduceSub, Int.reduceMul, Int.reduceNeg, Int.reduceToNat, reduceCtorEq, reduceIte, lenV_sl H.k, lenV_sl H.p, lenV_sl H.b, elem_kd H.k, elem_pr H.p, elem_in H.b, view_sl H.k, view_sl H.p, view_sl H.b, scalar_sl H.k, scalar_sl H.p, scalar_sl H.b, cells_sl H.k, cells_sl H.p, cells_sl H.b, pure_sl H.k, pure_sl H.p, pure_sl H.b, Int.toNat_natCast, a53, hlt, hb, z1, ← hlw, hle, s16, gUn, Bool.not_false, Bool.not_true, decide_false, decide_true]
        done
end
end Go.Proofs.Ytcdedbpmjhjehaa.S

