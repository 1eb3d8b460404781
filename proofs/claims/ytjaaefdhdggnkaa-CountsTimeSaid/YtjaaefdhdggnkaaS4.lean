/-
The functions of both sides of stage 1, one after another (S4).
-/
import Derived.Test.YtjaaefdhdggnkaaS3

/-
The laws of stage 1 on Fish and Whole, and on Came and Passed.
-/
namespace Go.Proofs.Ytjaaefdhdggnkaa.S
open Go Go.Am Go.Proofs.Ytjaaefdhdggnkaa.T
set_option maxRecDepth 100000
set_option linter.unusedSimpArgs false
set_option linter.unusedVariables false

theorem s12 {t : Trap} {o w : AV} (H0 : TrIn t o w) (a b : Int) : Iso E 12 [trV t o w, I a, I b] false = some (Bo true) := by
  have ho := H0.o
  have hw := H0.w
  have c53 := fun st => s53 H0 st
  have d19 := s19
  cases hg : t.huge
  case true =>
    refine Iso_of (es _ _ _ _) e12 ?_
    simp only [f12, trV, hg] at c53 ⊢
    simp (disch := first | assumption | omega | (simp only [az]; done)) only [ru, eq_self, if_true, if_false, BEq.rfl, binI, AO.row?, splice, fillL, mmAll, loadV, storeV, zeros, Am.rowAt, Am.part, addOff, Nat.reduceAdd, Nat.reduceMul, Nat.reduceLeDiff, Nat.reduceSub, Nat.reduceLT, Int.reduceEq, Int.reduceLT, Int.reduceLE, Int.reduceGT, Int.reduceGE, Int.reduceAdd, Int.reduceSub, Int.reduceMul, Int.reduceNeg, Int.reduceToNat, reduceCtorEq, reduceIte, lenV_sl ho, elem_sl Ls.el ho, view_sl ho, scalar_sl ho, cells_sl ho, pure_sl ho, lenV_sl hw, elem_sl Wd.el hw, view_sl hw, scalar_sl hw, cells_sl hw, pure_sl hw, c53, d19]
  have H := H0.ok hg
  have HC := H.cpv
  have c41 := fun st => s41 H st
  obtain ⟨l1, h1, e1, c32, A1⟩ := s32 HC a b
  obtain ⟨l2, h2, e2, c60, A2⟩ := s60 H a b
  obtain ⟨rfl, rfl, rfl⟩ := (cp_ans A1).uniq A2
  obtain ⟨l3, h3, e3, c23, A3⟩ := s23 HC a
  obtain ⟨l4, h4, e4, c61, A4⟩ := s61 H a
  obtain ⟨rfl, rfl, rfl⟩ := (cp_ans A3).uniq A4
  have c58 := fun st => s58 HC H st
  have hq := HC.o
  have hq' := HC.w
  simp only [cpV] at c41
  obtain ⟨o', eo⟩ : ∃ o', o' = cpO t.op := ⟨_, rfl⟩
  obtain ⟨w', ew⟩ : ∃ w', w' = slV 4 Wd.e t.ws := ⟨_, rfl⟩
  rw [← eo] at hq
  rw [← ew] at hq'
  refine Iso_of (es _ _ _ _) e12 ?_
  simp only [f12, trV, hg, ← eo, ← ew, Trap.cp] at c53 c41 c32 c60 c23 c61 c58 hq hq' ⊢
  simp (disch := first | assumption | omega | (simp only [az]; done)) only [ru, eq_self, if_true, if_false, BEq.rfl, binI, AO.row?, splice, fillL, mmAll, loadV, storeV, zeros, Am.rowAt, Am.part, addOff, Nat.reduceAdd, Nat.reduceMul, Nat.reduceLeDiff, Nat.reduceSub, Nat.reduceLT, Int.reduceEq, Int.reduceLT, Int.reduceLE, Int.reduceGT, Int.reduceGE, Int.reduceAdd, Int.reduceSub, Int.reduceMul, Int.reduceNeg, Int.reduceToNat, reduceCtorEq, reduceIte, lenV_sl ho, elem_sl Ls.el ho, view_sl ho, scalar_sl ho, cells_sl ho, pure_sl ho, lenV_sl hw, elem_sl Wd.el hw, view_sl hw, scalar_sl hw, cells_sl hw, pure_sl hw, lenV_sl hq, elem_sl Ls.el hq, view_sl hq, scalar_sl hq, cells_sl hq, pure_sl hq, lenV_sl hq', elem_sl Wd.el hq', view_sl hq', scalar_sl hq', cells_sl hq', pure_sl hq', c53, c41, c32, c60, c23, c61, c58, d19]

theorem s13 {t : Trap} {o w : AV} (H0 : TrIn t o w) (a b : Int) : Iso E 13 [trV t o w, I a, I b] false = some (Bo true) := by
  have ho := H0.o
  have hw := H0.w
  have c53 := fun st => s53 H0 st
  have d19 := s19
  cases hg : t.huge
  case true =>
    refine Iso_of (es _ _ _ _) e13 ?_
    simp only [f13, trV, hg] at c53 ⊢
    simp (disch := first | assumption | omega | (simp only [az]; done)) only [ru, eq_self, if_true, if_false, BEq.rfl, binI, AO.row?, splice, fillL, mmAll, loadV, storeV, zeros, Am.rowAt, Am.part, addOff, Nat.reduceAdd, Nat.reduceMul, Nat.reduceLeDiff, Nat.reduceSub, Nat.reduceLT, Int.reduceEq, Int.reduceLT, Int.reduceLE, Int.reduceGT, Int.reduceGE, Int.reduceAdd, Int.reduceSub, Int.reduceMul, Int.reduceNeg, Int.reduceToNat, reduceCtorEq, reduceIte, lenV_sl ho, elem_sl Ls.el ho, view_sl ho, scalar_sl ho, cells_sl ho, pure_sl ho, lenV_sl hw, elem_sl Wd.el hw, view_sl hw, scalar_sl hw, cells_sl hw, pure_sl hw, c53, d19]
  have H := H0.ok hg
  have HC := H.cpv
  have c41 := fun st => s41 H st
  obtain ⟨l1, h1, e1, c24, A1⟩ := s24 HC a b
  obtain ⟨l2, h2, e2, c62, A2⟩ := s62 H a b
  obtain ⟨rfl, rfl, rfl⟩ := (cp_ans A1).uniq A2
  obtain ⟨l3, h3, e3, c27, A3⟩ := s27 HC a b
  obtain ⟨l4, h4, e4, c63, A4⟩ := s63 H a b
  have A3' := cp_ans A3
  rw [cp_step] at A3'
  obtain ⟨rfl, rfl, rfl⟩ := A3'.uniq A4
  have c58 := fun st => s58 HC H st
  have hq := HC.o
  have hq' := HC.w
  simp only [cpV] at c41
  obtain ⟨o', eo⟩ : ∃ o', o' = cpO t.op := ⟨_, rfl⟩
  obtain ⟨w', ew⟩ : ∃ w', w' = slV 4 Wd.e t.ws := ⟨_, rfl⟩
  rw [← eo] at hq
  rw [← ew] at hq'
  refine Iso_of (es _ _ _ _) e13 ?_
  simp only [f13, trV, hg, ← eo, ← ew, Trap.cp] at c53 c41 c24 c62 c27 c63 c58 hq hq' ⊢
  simp (disch := first | assumption | omega | (simp only [az]; done)) only [ru, eq_self, if_true, if_false, BEq.rfl, binI, AO.row?, splice, fillL, mmAll, loadV, storeV, zeros, Am.rowAt, Am.part, addOff, Nat.reduceAdd, Nat.reduceMul, Nat.reduceLeDiff, Nat.reduceSub, Nat.reduceLT, Int.reduceEq, Int.reduceLT, Int.reduceLE, Int.reduceGT, Int.reduceGE, Int.reduceAdd, Int.reduceSub, Int.reduceMul, Int.reduceNeg, Int.reduceToNat, reduceCtorEq, reduceIte, lenV_sl ho, elem_sl Ls.el ho, view_sl ho, scalar_sl ho, cells_sl ho, pure_sl ho, lenV_sl hw, elem_sl Wd.el hw, view_sl hw, scalar_sl hw, cells_sl hw, pure_sl hw, lenV_sl hq, elem_sl Ls.el hq, view_sl hq, scalar_sl hq, cells_sl hq, pure_sl hq, lenV_sl hq', elem_sl Wd.el hq', view_sl hq', scalar_sl hq', cells_sl hq', pure_sl hq', c53, c41, c24, c62, c27, c63, c58, d19]
end Go.Proofs.Ytjaaefdhdggnkaa.S

/-
What the reference answers: Judge and Enough; the law on them.
-/
namespace Go.Proofs.Ytjaaefdhdggnkaa.S
open Go Go.Am Go.Proofs.Ytjaaefdhdggnkaa.T
set_option maxRecDepth 100000
set_option linter.unusedSimpArgs false
set_option linter.unusedVariables false

/-! what is asked of a copy -/
theorem cp_jud {t : Trap} {y : Wd} {k : Int} (J : JudP t.cp y k) : JudP t y k := by
  unfold JudP at *
  simp only [tr_cp, cp_C] at J
  exact J
theorem cp_en {t : Trap} {n : Int} {r : Int × Int × Int} (J : EnP t.cp n r) : EnP t n r := by
  unfold EnP at *
  simp only [tr_cp, cp_C, cp_T] at J
  exact J
theorem cp_tell {t : Trap} {i c : Nat} {m : Int} (J : TellP t.cp i c m) : TellP t i c m := by
  unfold TellP at *
  simp only [tr_cp, cp_C, cp_T] at J
  exact J
theorem cp_ansG {α : Type} {t : Trap} {fit : Bool} {D : Int → α} {P Q : α → Prop} {v : α} (A : AnsG t.cp fit D P v) (h : ∀ a, P a → Q a) : AnsG t fit D Q v := by
  cases A with
  | bad hv => exact .bad (cp_valid.symm.trans hv)
  | arg hv hf => exact .arg (cp_valid.symm.trans hv) hf
  | none hv hf hn => exact .none (cp_valid.symm.trans hv) hf fun h => hn (cp_solv.2 h)
  | ok hv hf hs hx => exact .ok (cp_valid.symm.trans hv) hf (cp_solv.1 hs) (h _ hx)
theorem cp_ansJ {t : Trap} {y : Wd} {v : Int × Int} (A : AnsG t.cp (fitB t.cp y) (fun e => ((0 : Int), e)) (fun r => JudP t.cp y r.1 ∧ r.2 = 0) v) : AnsG t (fitB t y) (fun e => ((0 : Int), e)) (fun r => JudP t y r.1 ∧ r.2 = 0) v :=
  cp_ansG A fun a h => ⟨cp_jud h.1, h.2⟩
theorem cp_ansE {t : Trap} {fit : Bool} {n : Int} {v : Int × Int × Int} (A : AnsG t.cp fit (fun e => ((0 : Int), (0 : Int), e)) (EnP t.cp n) v) : AnsG t fit (fun e => ((0 : Int), (0 : Int), e)) (EnP t n) v :=
  cp_ansG A fun a h => cp_en h
theorem KnR.map {t : Trap} {fit fit' : Bool} {e : Int} (K : KnR t fit e) (h : t.valid = true → fit' = fit) : KnR t fit' e := by
  cases K with
  | bad hv => exact .bad hv
  | arg hv hf => exact .arg hv ((h hv).trans hf)
  | none hv hf hn => exact .none hv ((h hv).trans hf) hn
  | ok hv hf hs => exact .ok hv ((h hv).trans hf) hs
theorem isW_val {t : Trap} (hv : t.valid = true) (y : Wd) : fitB t y = isW t y := by
  have V := valid_trb hv
  exact (isW_fit (inR_iff.2 ⟨V.c0, V.c1⟩) (inR_iff.2 ⟨V.t0, V.t1⟩)).symm

set_option maxHeartbeats 1000000 in
theorem s64 {t : Trap} {o w : AV} (H : TrOk t o w) (y : Wd) : ∃ v e, Iso E 64 [trV t o w, .agg y.e] false = some (.tup [I v, I e]) ∧ AnsG t (fitB t y) (fun e => (0, e)) (fun r => JudP t y r.1 ∧ r.2 = 0) (v, e) := by
  have c1 := fun st => s28 H y st
  obtain ⟨fit, hfit⟩ : ∃ fit, fit = isW t y := ⟨_, rfl⟩
  rw [← hfit] at c1
  obtain ⟨e, c92, K⟩ := s92 H fit
  have K2 := K.map (fit' := fitB t y) (fun hv => (isW_val hv y).trans hfit.symm)
  simp only [trV, Wd.e] at c1 c92 ⊢
  cases K2 with
  | bad hv =>
    refine ⟨0, 10, ?_, .bad hv⟩
    refine Iso_of (es _ _ _ _) e64 ?_
    simp only [f64]
    simp (disch := first | assumption | omega | (simp only [az]; done)) only [ru, eq_self, if_true, if_false, BEq.rfl, binI, AO.row?, splice, fillL, mmAll, loadV, storeV, zeros, Am.rowAt, Am.part, addOff, Nat.reduceAdd, Nat.reduceMul, Nat.reduceLeDiff, Nat.reduceSub, Nat.reduceLT, Int.reduceEq, Int.reduceLT, Int.reduceLE, Int.reduceGT, Int.reduceGE, Int.reduceAdd, Int.reduceSub, Int.reduceMul, Int.reduceNeg, Int.reduceToNat, reduceCtorEq, reduceIte, lenV_sl H.o, lenV_sl H.w, elem_sl Ls.el H.o, elem_sl Wd.el H.w, view_sl H.o, view_sl H.w, scalar_sl H.o, scalar_sl H.w, cells_sl H.o, cells_sl H.w, pure_sl H.o, pure_sl H.w, Int.toNat_natCast, c1, c92]
  | arg hv hf =>
    refine ⟨0, 1, ?_, .arg hv hf⟩
    refine Iso_of (es _ _ _ _) e64 ?_
    simp only [f64]
    simp (disch := first | assumption | omega | (simp only [az]; done)) only [ru, eq_self, if_true, if_false, BEq.rfl, binI, AO.row?, splice, fillL, mmAll, loadV, storeV, zeros, Am.rowAt, Am.part, addOff, Nat.reduceAdd, Nat.reduceMul, Nat.reduceLeDiff, Nat.reduceSub, Nat.reduceLT, Int.reduceEq, Int.reduceLT, Int.reduceLE, Int.reduceGT, Int.reduceGE, Int.reduceAdd, Int.reduceSub, Int.reduceMul, Int.reduceNeg, Int.reduceToNat, reduceCtorEq, reduceIte, lenV_sl H.o, lenV_sl H.w, elem_sl Ls.el H.o, elem_sl Wd.el H.w, view_sl H.o, view_sl H.w, scalar_sl H.o, scalar_sl H.w, cells_sl H.o, cells_sl H.w, pure_sl H.o, pure_sl H.w, Int.toNat_natCast, c1, c92]
  | none hv hf hn =>
    refine ⟨0, 3, ?_, .none hv hf hn⟩
    refine Iso_of (es _ _ _ _) e64 ?_
    simp only [f64]
    simp (disch := first | assumption | omega | (simp only [az]; done)) only [ru, eq_self, if_true, if_false, BEq.rfl, binI, AO.row?, splice, fillL, mmAll, loadV, storeV, zeros, Am.rowAt, Am.part, addOff, Nat.reduceAdd, Nat.reduceMul, Nat.reduceLeDiff, Nat.reduceSub, Nat.reduceLT, Int.reduceEq, Int.reduceLT, Int.reduceLE, Int.reduceGT, Int.reduceGE, Int.reduceAdd, Int.reduceSub, Int.reduceMul, Int.reduceNeg, Int.reduceToNat, reduceCtorEq, reduceIte, lenV_sl H.o, lenV_sl H.w, elem_sl Ls.el H.o, elem_sl Wd.el H.w, view_sl H.o, view_sl H.w, scalar_sl H.o, scalar_sl H.w, cells_sl H.o, cells_sl H.w, pure_sl H.o, pure_sl H.w, Int.toNat_natCast, c1, c92]
  | ok hv hf hs =>
    have V := valid_trb hv
    have eC := eqC hv; have eT := eqT hv
    have hf2 := hf
    simp only [fitB, placeB, Bool.and_eq_true, decide_eq_true_eq] at hf2
    obtain ⟨lo, hi', c93, X⟩ := s93 H V hs (i := y.time.toNat) (c := y.ch.toNat) (by omega) (by omega)
    have h8 := valid_w8 hv
    have c35 := fun st => s35 H (by omega) y st
    have HA := add_ok H (by omega) y
    obtain ⟨b, c36, hb⟩ := s36 HA (cp_trb (add_trb V h8 hf)) (C := t.C) (T := t.T) eC eT
    have hb' : b = true ↔ ∃ x, Tr t x ∧ saysW t.C x y := by
      rw [hb]
      constructor
      · rintro ⟨x, h1, h2⟩
        have := (tr_cp (t := t.add y)).1 (show Tr (t.add y).cp x from ⟨h1, h2⟩)
        exact ⟨x, tr_add.1 this⟩
      · rintro ⟨x, hx⟩
        have := (tr_cp (t := t.add y)).2 (tr_add.2 hx)
        exact ⟨x, this.1, this.2⟩
    have e1 : ((y.time.toNat : Nat) : Int) = y.time := by omega
    have e2 : ((y.ch.toNat : Nat) : Int) = y.ch := by omega
    rw [e1, e2] at c93
    have hq := HA.o
    have hq' := HA.w
    simp only [trV, cpV] at c93 c35
    have c36' : ∀ st, Iso E 36 [.agg [I (t.add y).ch, I (t.add y).tm, cpO (t.add y).op, slV 4 Wd.e (t.add y).ws]] st = some (Bo b) := c36
    clear c36
    obtain ⟨o', eo⟩ : ∃ o', o' = cpO (t.add y).op := ⟨_, rfl⟩
    obtain ⟨w', ew⟩ : ∃ w', w' = slV 4 Wd.e (t.add y).ws := ⟨_, rfl⟩
    rw [← eo] at hq
    rw [← ew] at hq'
    simp only [← eo, ← ew, Wd.e] at c35 c36'
    obtain ⟨x0, x1, x2⟩ := xt_tr X
    obtain ⟨u1, u2, u3⟩ := x1
    obtain ⟨v1, v2, v3⟩ := x2
    try simp only at x0 u3 v3
    have run : ∀ v : Int, (inR lo y.lo y.hi = true → inR hi' y.lo y.hi = true → v = 1) → ((inR lo y.lo y.hi = true → inR hi' y.lo y.hi = false) → b = false → v = 2) → ((inR lo y.lo y.hi = true → inR hi' y.lo y.hi = false) → b = true → v = 3) →
        Iso E 64 [.agg [I t.ch, I t.tm, o, w], .agg [I y.time, I y.ch, I y.lo, I y.hi]] false = some (.tup [I v, I 0]) := by
      intro v g1 g2 g3
      refine Iso_of (es _ _ _ _) e64 ?_
      simp only [f64]
      cases h1 : inR lo y.lo y.hi
      · cases b
        · obtain rfl := g2 (fun h => by rw [h1] at h; cases h) rfl
          simp (disch := first | assumption | omega | (simp only [az]; done)) only [ru, eq_self, if_true, if_false, BEq.rfl, binI, AO.row?, splice, fillL, mmAll, loadV, storeV, zeros, Am.rowAt, Am.part, addOff, Nat.reduceAdd, Nat.reduceMul, Nat.reduceLeDiff, Nat.reduceSub, Nat.reduceLT, Int.reduceEq, Int.reduceLT, Int.reduceLE, Int.reduceGT, Int.reduceGE, Int.reduceAdd, Int.reduceSub, Int.reduceMul, Int.reduceNeg, Int.reduceToNat, reduceCtorEq, reduceIte, lenV_sl H.o, lenV_sl H.w, elem_sl Ls.el H.o, elem_sl Wd.el H.w, view_sl H.o, view_sl H.w, scalar_sl H.o, scalar_sl H.w, cells_sl H.o, cells_sl H.w, pure_sl H.o, pure_sl H.w, Int.toNat_natCast, lenV_sl hq, elem_sl Ls.el hq, view_sl hq, scalar_sl hq, cells_sl hq, pure_sl hq, lenV_sl hq', elem_sl Wd.el hq', view_sl hq', scalar_sl hq', cells_sl hq', pure_sl hq', c1, c92, c93, s30, h1, c35, c36', gUn]
        · obtain rfl := g3 (fun h => by rw [h1] at h; cases h) rfl
          simp (disch := first | assumption | omega | (simp only [az]; done)) only [ru, eq_self, if_true, if_false, BEq.rfl, binI, AO.row?, splice, fillL, mmAll, loadV, storeV, zeros, Am.rowAt, Am.part, addOff, Nat.reduceAdd, Nat.reduceMul, Nat.reduceLeDiff, Nat.reduceSub, Nat.reduceLT, Int.reduceEq, Int.reduceLT, Int.reduceLE, Int.reduceGT, Int.reduceGE, Int.reduceAdd, Int.reduceSub, Int.reduceMul, Int.reduceNeg, Int.reduceToNat, reduceCtorEq, reduceIte, lenV_sl H.o, lenV_sl H.w, elem_sl Ls.el H.o, elem_sl Wd.el H.w, view_sl H.o, view_sl H.w, scalar_sl H.o, scalar_sl H.w, cells_sl H.o, cells_sl H.w, pure_sl H.o, pure_sl H.w, Int.toNat_natCast, lenV_sl hq, elem_sl Ls.el hq, view_sl hq, scalar_sl hq, cells_sl hq, pure_sl hq, lenV_sl hq', elem_sl Wd.el hq', view_sl hq', scalar_sl hq', cells_sl hq', pure_sl hq', c1, c92, c93, s30, h1, c35, c36', gUn]
      · cases h2 : inR hi' y.lo y.hi
        · cases b
          · obtain rfl := g2 (fun h => h2) rfl
            simp (disch := first | assumption | omega | (simp only [az]; done)) only [ru, eq_self, if_true, if_false, BEq.rfl, binI, AO.row?, splice, fillL, mmAll, loadV, storeV, zeros, Am.rowAt, Am.part, addOff, Nat.reduceAdd, Nat.reduceMul, Nat.reduceLeDiff, Nat.reduceSub, Nat.reduceLT, Int.reduceEq, Int.reduceLT, Int.reduceLE, Int.reduceGT, Int.reduceGE, Int.reduceAdd, Int.reduceSub, Int.reduceMul, Int.reduceNeg, Int.reduceToNat, reduceCtorEq, reduceIte, lenV_sl H.o, lenV_sl H.w, elem_sl Ls.el H.o, elem_sl Wd.el H.w, view_sl H.o, view_sl H.w, scalar_sl H.o, scalar_sl H.w, cells_sl H.o, cells_sl H.w, pure_sl H.o, pure_sl H.w, Int.toNat_natCast, lenV_sl hq, elem_sl Ls.el hq, view_sl hq, scalar_sl hq, cells_sl hq, pure_sl hq, lenV_sl hq', elem_sl Wd.el hq', view_sl hq', scalar_sl hq', cells_sl hq', pure_sl hq', c1, c92, c93, s30, h1, h2, c35, c36', gUn]
          · obtain rfl := g3 (fun h => h2) rfl
            simp (disch := first | assumption | omega | (simp only [az]; done)) only [ru, eq_self, if_true, if_false, BEq.rfl, binI, AO.row?, splice, fillL, mmAll, loadV, storeV, zeros, Am.rowAt, Am.part, addOff, Nat.reduceAdd, Nat.reduceMul, Nat.reduceLeDiff, Nat.reduceSub, Nat.reduceLT, Int.reduceEq, Int.reduceLT, Int.reduceLE, Int.reduceGT, Int.reduceGE, Int.reduceAdd, Int.reduceSub, Int.reduceMul, Int.reduceNeg, Int.reduceToNat, reduceCtorEq, reduceIte, lenV_sl H.o, lenV_sl H.w, elem_sl Ls.el H.o, elem_sl Wd.el H.w, view_sl H.o, view_sl H.w, scalar_sl H.o, scalar_sl H.w, cells_sl H.o, cells_sl H.w, pure_sl H.o, pure_sl H.w, Int.toNat_natCast, lenV_sl hq, elem_sl Ls.el hq, view_sl hq, scalar_sl hq, cells_sl hq, pure_sl hq, lenV_sl hq', elem_sl Wd.el hq', view_sl hq', scalar_sl hq', cells_sl hq', pure_sl hq', c1, c92, c93, s30, h1, h2, c35, c36', gUn]
        · obtain rfl := g1 h1 h2
          simp (disch := first | assumption | omega | (simp only [az]; done)) only [ru, eq_self, if_true, if_false, BEq.rfl, binI, AO.row?, splice, fillL, mmAll, loadV, storeV, zeros, Am.rowAt, Am.part, addOff, Nat.reduceAdd, Nat.reduceMul, Nat.reduceLeDiff, Nat.reduceSub, Nat.reduceLT, Int.reduceEq, Int.reduceLT, Int.reduceLE, Int.reduceGT, Int.reduceGE, Int.reduceAdd, Int.reduceSub, Int.reduceMul, Int.reduceNeg, Int.reduceToNat, reduceCtorEq, reduceIte, lenV_sl H.o, lenV_sl H.w, elem_sl Ls.el H.o, elem_sl Wd.el H.w, view_sl H.o, view_sl H.w, scalar_sl H.o, scalar_sl H.w, cells_sl H.o, cells_sl H.w, pure_sl H.o, pure_sl H.w, Int.toNat_natCast, lenV_sl hq, elem_sl Ls.el hq, view_sl hq, scalar_sl hq, cells_sl hq, pure_sl hq, lenV_sl hq', elem_sl Wd.el hq', view_sl hq', scalar_sl hq', cells_sl hq', pure_sl hq', c1, c92, c93, s30, h1, h2, c35, c36', gUn]
    by_cases h1 : inR lo y.lo y.hi = true ∧ inR hi' y.lo y.hi = true
    · refine ⟨1, 0, run 1 (fun _ _ => rfl) (fun h => ?_) (fun h => ?_), .ok hv hf hs ⟨.inl ⟨rfl, fun x hx => ?_⟩, rfl⟩⟩
      · rw [h h1.1] at h1; exact absurd h1.2 (by simp)
      · rw [h h1.1] at h1; exact absurd h1.2 (by simp)
      · have := x0 x hx
        simp only [inR_iff] at h1
        unfold saysW; omega
    · cases b
      · refine ⟨2, 0, run 2 (fun a b => absurd ⟨a, b⟩ h1) (fun _ _ => rfl) (fun _ h => by cases h), .ok hv hf hs ⟨.inr (.inl ⟨rfl, fun x hx h => ?_⟩), rfl⟩⟩
        exact absurd (hb'.2 ⟨x, hx, h⟩) (by simp)
      · refine ⟨3, 0, run 3 (fun a b => absurd ⟨a, b⟩ h1) (fun _ h => by cases h) (fun _ _ => rfl), .ok hv hf hs ⟨.inr (.inr ⟨rfl, hb'.1 rfl, ?_⟩), rfl⟩⟩
        simp only [inR_iff] at h1
        by_cases h2 : y.lo ≤ lo ∧ lo ≤ y.hi
        · exact ⟨v1, v2, by unfold saysW; omega⟩
        · exact ⟨u1, u2, by unfold saysW; omega⟩

theorem s43 (n : Int) (st : Bool) : Iso E 43 [I n] st = some (Bo (fishB n)) := by
  refine Iso_of (es _ _ _ _) e43 ?_
  simp only [f43]
  have e : fishB n = inR n 1 40 := rfl
  rw [e]
  simp (disch := first | assumption | omega | (simp only [az]; done)) only [ru, eq_self, if_true, if_false, BEq.rfl, binI, AO.row?, splice, fillL, mmAll, loadV, storeV, zeros, Am.rowAt, Am.part, addOff, Nat.reduceAdd, Nat.reduceMul, Nat.reduceLeDiff, Nat.reduceSub, Nat.reduceLT, Int.reduceEq, Int.reduceLT, Int.reduceLE, Int.reduceGT, Int.reduceGE, Int.reduceAdd, Int.reduceSub, Int.reduceMul, Int.reduceNeg, Int.reduceToNat, reduceCtorEq, reduceIte, s30]

set_option maxHeartbeats 1000000 in
theorem s65 {t : Trap} {o w : AV} (H : TrOk t o w) (fish : Int) : ∃ a b e, Iso E 65 [trV t o w, I fish] false = some (.tup [.agg [I a, I b], I e]) ∧ AnsG t (fishB fish) (fun e => (0, 0, e)) (EnP t fish) (a, b, e) := by
  have c1 := fun st => s43 fish st
  obtain ⟨fit, hfit⟩ : ∃ fit, fit = fishB fish := ⟨_, rfl⟩
  rw [← hfit] at c1 ⊢
  obtain ⟨e, c92, K⟩ := s92 H fit
  simp only [trV] at c92 ⊢
  cases K with
  | bad hv =>
    refine ⟨0, 0, 10, ?_, .bad hv⟩
    refine Iso_of (es _ _ _ _) e65 ?_
    simp only [f65]
    simp (disch := first | assumption | omega | (simp only [az]; done)) only [ru, eq_self, if_true, if_false, BEq.rfl, binI, AO.row?, splice, fillL, mmAll, loadV, storeV, zeros, Am.rowAt, Am.part, addOff, Nat.reduceAdd, Nat.reduceMul, Nat.reduceLeDiff, Nat.reduceSub, Nat.reduceLT, Int.reduceEq, Int.reduceLT, Int.reduceLE, Int.reduceGT, Int.reduceGE, Int.reduceAdd, Int.reduceSub, Int.reduceMul, Int.reduceNeg, Int.reduceToNat, reduceCtorEq, reduceIte, lenV_sl H.o, lenV_sl H.w, elem_sl Ls.el H.o, elem_sl Wd.el H.w, view_sl H.o, view_sl H.w, scalar_sl H.o, scalar_sl H.w, cells_sl H.o, cells_sl H.w, pure_sl H.o, pure_sl H.w, Int.toNat_natCast, c1, c92]
    exact finS rfl rfl
  | arg hv hf =>
    refine ⟨0, 0, 1, ?_, .arg hv hf⟩
    refine Iso_of (es _ _ _ _) e65 ?_
    simp only [f65]
    simp (disch := first | assumption | omega | (simp only [az]; done)) only [ru, eq_self, if_true, if_false, BEq.rfl, binI, AO.row?, splice, fillL, mmAll, loadV, storeV, zeros, Am.rowAt, Am.part, addOff, Nat.reduceAdd, Nat.reduceMul, Nat.reduceLeDiff, Nat.reduceSub, Nat.reduceLT, Int.reduceEq, Int.reduceLT, Int.reduceLE, Int.reduceGT, Int.reduceGE, Int.reduceAdd, Int.reduceSub, Int.reduceMul, Int.reduceNeg, Int.reduceToNat, reduceCtorEq, reduceIte, lenV_sl H.o, lenV_sl H.w, elem_sl Ls.el H.o, elem_sl Wd.el H.w, view_sl H.o, view_sl H.w, scalar_sl H.o, scalar_sl H.w, cells_sl H.o, cells_sl H.w, pure_sl H.o, pure_sl H.w, Int.toNat_natCast, c1, c92]
    exact finS rfl rfl
  | none hv hf hn =>
    refine ⟨0, 0, 3, ?_, .none hv hf hn⟩
    refine Iso_of (es _ _ _ _) e65 ?_
    simp only [f65]
    simp (disch := first | assumption | omega | (simp only [az]; done)) only [ru, eq_self, if_true, if_false, BEq.rfl, binI, AO.row?, splice, fillL, mmAll, loadV, storeV, zeros, Am.rowAt, Am.part, addOff, Nat.reduceAdd, Nat.reduceMul, Nat.reduceLeDiff, Nat.reduceSub, Nat.reduceLT, Int.reduceEq, Int.reduceLT, Int.reduceLE, Int.reduceGT, Int.reduceGE, Int.reduceAdd, Int.reduceSub, Int.reduceMul, Int.reduceNeg, Int.reduceToNat, reduceCtorEq, reduceIte, lenV_sl H.o, lenV_sl H.w, elem_sl Ls.el H.o, elem_sl Wd.el H.w, view_sl H.o, view_sl H.w, scalar_sl H.o, scalar_sl H.w, cells_sl H.o, cells_sl H.w, pure_sl H.o, pure_sl H.w, Int.toNat_natCast, c1, c92]
    exact finS rfl rfl
  | ok hv hf hs =>
    have V := valid_trb hv
    have v0 := V.c0; have v2 := V.c1; have v3 := V.t0; have v4 := V.t1
    have eC := eqC hv; have eT := eqT hv
    have hC1 : t.C - 1 < t.C := by omega
    suffices hR : ∃ r h', R E (.fn 65) [.agg [I t.ch, I t.tm, o, w], I fish] [] 0 = some (r, h') ∧ ∃ a b e, r = .tup [.agg [I a, I b], I e] ∧ EnP t fish (a, b, e) by
      obtain ⟨r, h', hr, a, b, e, rfl, hp⟩ := hR
      refine ⟨a, b, e, ?_, .ok hv hf hs hp⟩
      simp only [Iso, hr]
      rfl
    have w1 : wr .i64 (t.tm - 1) = t.tm - 1 := wr64 (by omega) (by omega)
    have w2 : wr .i64 (t.ch - 1) = ((t.C - 1 : Nat) : Int) := by rw [wr64 (by omega) (by omega)]; omega
    refine R_of (f := 65) (fun r h' => ∃ a b e, r = .tup [.agg [I a, I b], I e] ∧ EnP t fish (a, b, e)) (es _ _ _ _) e65 ?_
    simp only [f65]
    simp (disch := first | assumption | omega | (simp only [az]; done)) only [ru, eq_self, if_true, if_false, BEq.rfl, binI, AO.row?, splice, fillL, mmAll, loadV, storeV, zeros, Am.rowAt, Am.part, addOff, Nat.reduceAdd, Nat.reduceMul, Nat.reduceLeDiff, Nat.reduceSub, Nat.reduceLT, Int.reduceEq, Int.reduceLT, Int.reduceLE, Int.reduceGT, Int.reduceGE, Int.reduceAdd, Int.reduceSub, Int.reduceMul, Int.reduceNeg, Int.reduceToNat, reduceCtorEq, reduceIte, lenV_sl H.o, lenV_sl H.w, elem_sl Ls.el H.o, elem_sl Wd.el H.w, view_sl H.o, view_sl H.w, scalar_sl H.o, scalar_sl H.w, cells_sl H.o, cells_sl H.w, pure_sl H.o, pure_sl H.w, Int.toNat_natCast, c1, c92, w1]
    refine G_loop_ind (fun q ts hh mk => ∃ (m : Nat) (ol oh : Int) (J : List AO), q = m ∧ m ≤ t.T ∧ ts.length = 49 ∧ ts.getD 1 .undef = I fish ∧ ts.getD 2 .undef = .ptr 0 0 ∧ ts.getD 4 .undef = .ptr 1 0 ∧ ts.getD 7 .undef = .ptr 2 0 ∧ ts.getD 8 .undef = I ((m : Int) - 1) ∧
      hh = .cells [I t.ch, I t.tm, o, w] false :: .cells [I 0, I 0] false :: .cells [I ol, I oh] false :: J ∧ mk = [] ∧
      ((ol = -1 ∧ ∀ j, m ≤ j → j < t.T → ∀ x, Tr t x → gap t.C x j (t.C - 1) < fish) ∨ ∃ a : Nat, ol = a ∧ m ≤ a ∧ a < t.T ∧ (∃ x, Tr t x ∧ fish ≤ gap t.C x a (t.C - 1)) ∧ ∀ j, m ≤ j → j < a → ∀ x, Tr t x → gap t.C x j (t.C - 1) < fish) ∧
      ((oh = -1 ∧ ∀ j, m ≤ j → j < t.T → ∃ x, Tr t x ∧ gap t.C x j (t.C - 1) < fish) ∨ ∃ a : Nat, oh = a ∧ m ≤ a ∧ a < t.T ∧ (∀ x, Tr t x → fish ≤ gap t.C x a (t.C - 1)) ∧ ∀ j, m ≤ j → j < a → ∃ x, Tr t x ∧ gap t.C x j (t.C - 1) < fish)) ?_ _ _ _ _
      ⟨t.T, -1, -1, [], rfl, Nat.le_refl _, rfl, rfl, rfl, rfl, rfl, by show I _ = I _; rw [eT], rfl, rfl, .inl ⟨rfl, fun j h1 h2 => by omega⟩, .inl ⟨rfl, fun j h1 h2 => by omega⟩⟩
    rintro q ts hh mk ih ⟨m, ol, oh, J, rfl, hm, hl, q1, q2, q4, q7, q8, rfl, rfl, lowI, higI⟩
    rw [lit_all hl]
    simp only [lit0, litS, Nat.reduceAdd, q1, q2, q4, q7, q8]
    simp (disch := first | assumption | omega | (simp only [az]; done)) only [ru, eq_self, if_true, if_false, BEq.rfl, binI, AO.row?, splice, fillL, mmAll, loadV, storeV, zeros, Am.rowAt, Am.part, addOff, Nat.reduceAdd, Nat.reduceMul, Nat.reduceLeDiff, Nat.reduceSub, Nat.reduceLT, Int.reduceEq, Int.reduceLT, Int.reduceLE, Int.reduceGT, Int.reduceGE, Int.reduceAdd, Int.reduceSub, Int.reduceMul, Int.reduceNeg, Int.reduceToNat, reduceCtorEq, reduceIte]
    by_cases hlt : (q : Int) - 1 ≥ 0
    case neg =>
      have hq : q = 0 := by omega
      subst hq
      rcases higI with ⟨rfl, hn⟩ | ⟨b, rfl, b1, b2, b3, b4⟩
      · simp (disch := first | assumption | omega | (simp only [az]; done)) only [ru, eq_self, if_true, if_false, BEq.rfl, binI, AO.row?, splice, fillL, mmAll, loadV, storeV, zeros, Am.rowAt, Am.part, addOff, Nat.reduceAdd, Nat.reduceMul, Nat.reduceLeDiff, Nat.reduceSub, Nat.reduceLT, Int.reduceEq, Int.reduceLT, Int.reduceLE, Int.reduceGT, Int.reduceGE, Int.reduceAdd, Int.reduceSub, Int.reduceMul, Int.reduceNeg, Int.reduceToNat, reduceCtorEq, reduceIte, hlt]
        rw [finCT]
        exact ⟨_, rfl, _, _, _, rfl, .inr ⟨rfl, fun i hi => hn i (Nat.zero_le _) hi⟩⟩
      · have nb : ¬ (b : Int) < 0 := by omega
        simp (disch := first | assumption | omega | (simp only [az]; done)) only [ru, eq_self, if_true, if_false, BEq.rfl, binI, AO.row?, splice, fillL, mmAll, loadV, storeV, zeros, Am.rowAt, Am.part, addOff, Nat.reduceAdd, Nat.reduceMul, Nat.reduceLeDiff, Nat.reduceSub, Nat.reduceLT, Int.reduceEq, Int.reduceLT, Int.reduceLE, Int.reduceGT, Int.reduceGE, Int.reduceAdd, Int.reduceSub, Int.reduceMul, Int.reduceNeg, Int.reduceToNat, reduceCtorEq, reduceIte, hlt, nb]
        rw [finCT]
        obtain ⟨x0, hx0⟩ := solv_tr.1 hs
        rcases lowI with ⟨rfl, hn⟩ | ⟨a, rfl, a1, a2, a3, a4⟩
        · have := hn b (Nat.zero_le _) b2 x0 hx0
          have := b3 x0 hx0
          omega
        · refine ⟨_, rfl, _, _, _, rfl, .inl ⟨rfl, a, b, rfl, rfl, ?_, b2, a3, fun i hi => a4 i (Nat.zero_le _) hi, b3, fun i hi => b4 i (Nat.zero_le _) hi⟩⟩
          refine Nat.le_of_not_lt fun h => ?_
          have := a4 b (Nat.zero_le _) h x0 hx0
          have := b3 x0 hx0
          omega
    obtain ⟨m, rfl⟩ : ∃ m, q = m + 1 := ⟨q - 1, by omega⟩
    have em : (((m + 1 : Nat) : Int) - 1) = m := by omega
    have em2 : wr .i64 ((m : Int) - 1) = (m : Int) - 1 := wr64 (by omega) (by omega)
    obtain ⟨lo, hi', c93, X⟩ := s93 H V hs (i := m) (c := t.C - 1) (by omega) hC1
    obtain ⟨x0, ⟨u1, u2, u3⟩, v1, v2, v3⟩ := xt_tr X
    try simp only at x0 u3 v3
    simp only [trV] at c93
    rw [em] at hlt ⊢
    simp (disch := first | assumption | omega | (simp only [az]; done)) only [ru, eq_self, if_true, if_false, BEq.rfl, binI, AO.row?, splice, fillL, mmAll, loadV, storeV, zeros, Am.rowAt, Am.part, addOff, Nat.reduceAdd, Nat.reduceMul, Nat.reduceLeDiff, Nat.reduceSub, Nat.reduceLT, Int.reduceEq, Int.reduceLT, Int.reduceLE, Int.reduceGT, Int.reduceGE, Int.reduceAdd, Int.reduceSub, Int.reduceMul, Int.reduceNeg, Int.reduceToNat, reduceCtorEq, reduceIte, lenV_sl H.o, lenV_sl H.w, elem_sl Ls.el H.o, elem_sl Wd.el H.w, view_sl H.o, view_sl H.w, scalar_sl H.o, scalar_sl H.w, cells_sl H.o, cells_sl H.w, pure_sl H.o, pure_sl H.w, Int.toNat_natCast, hlt, w2, c93, List.append_assoc, List.cons_append, lenE, setT, setT0, atT, atT0, getT, getT0, Nat.add_assoc]
    have low2 : ∀ z : Int, (if hi' ≥ fish then (m : Int) else ol) = z → ((z = -1 ∧ ∀ j, m ≤ j → j < t.T → ∀ x, Tr t x → gap t.C x j (t.C - 1) < fish) ∨ ∃ a : Nat, z = a ∧ m ≤ a ∧ a < t.T ∧ (∃ x, Tr t x ∧ fish ≤ gap t.C x a (t.C - 1)) ∧ ∀ j, m ≤ j → j < a → ∀ x, Tr t x → gap t.C x j (t.C - 1) < fish) := by
      rintro z rfl
      split
      · exact .inr ⟨m, rfl, Nat.le_refl _, by omega, ⟨v1, v2, by omega⟩, fun j h1 h2 => by omega⟩
      · have at_m : ∀ j, m ≤ j → ¬ m + 1 ≤ j → ∀ x, Tr t x → gap t.C x j (t.C - 1) < fish := fun j h1 h2 x hx => by
          obtain rfl : j = m := by omega
          have := x0 x hx
          omega
        rcases lowI with ⟨e, hn⟩ | ⟨a, e, a1, a2, a3, a4⟩
        · exact .inl ⟨e, fun j h1 h2 x hx => if h : m + 1 ≤ j then hn j h h2 x hx else at_m j h1 h x hx⟩
        · exact .inr ⟨a, e, by omega, a2, a3, fun j h1 h2 x hx => if h : m + 1 ≤ j then a4 j h h2 x hx else at_m j h1 h x hx⟩
    have hig2 : ∀ z : Int, (if lo ≥ fish then (m : Int) else oh) = z → ((z = -1 ∧ ∀ j, m ≤ j → j < t.T → ∃ x, Tr t x ∧ gap t.C x j (t.C - 1) < fish) ∨ ∃ a : Nat, z = a ∧ m ≤ a ∧ a < t.T ∧ (∀ x, Tr t x → fish ≤ gap t.C x a (t.C - 1)) ∧ ∀ j, m ≤ j → j < a → ∃ x, Tr t x ∧ gap t.C x j (t.C - 1) < fish) := by
      rintro z rfl
      split
      · exact .inr ⟨m, rfl, Nat.le_refl _, by omega, fun x hx => by have := x0 x hx; omega, fun j h1 h2 => by omega⟩
      · have at_m : ∀ j, m ≤ j → ¬ m + 1 ≤ j → ∃ x, Tr t x ∧ gap t.C x j (t.C - 1) < fish := fun j h1 h2 => by
          obtain rfl : j = m := by omega
          exact ⟨u1, u2, by omega⟩
        rcases higI with ⟨e, hn⟩ | ⟨a, e, a1, a2, a3, a4⟩
        · exact .inl ⟨e, fun j h1 h2 => if h : m + 1 ≤ j then hn j h h2 else at_m j h1 h⟩
        · exact .inr ⟨a, e, by omega, a2, a3, fun j h1 h2 => if h : m + 1 ≤ j then a4 j h h2 else at_m j h1 h⟩
    by_cases g1 : hi' ≥ fish <;> by_cases g2 : lo ≥ fish
    all_goals
      simp (disch := first | assumption | omega | (simp only [az]; done)) only [ru, eq_self, if_true, if_false, BEq.rfl, binI, AO.row?, splice, fillL, mmAll, loadV, storeV, zeros, Am.rowAt, Am.part, addOff, Nat.reduceAdd, Nat.reduceMul, Nat.reduceLeDiff, Nat.reduceSub, Nat.reduceLT, Int.reduceEq, Int.reduceLT, Int.reduceLE, Int.reduceGT, Int.reduceGE, Int.reduceAdd, Int.reduceSub, Int.reduceMul, Int.reduceNeg, Int.reduceToNat, reduceCtorEq, reduceIte, g1, g2, em2, List.append_assoc, List.cons_append, lenE, setT, setT0, atT, atT0, getT, getT0, Nat.add_assoc]
      exact ih m _ _ _ (by omega) ⟨m, _, _, _, rfl, by omega, rfl, rfl, rfl, rfl, rfl, rfl, rfl, rfl, low2 _ (by first | exact if_pos g1 | exact if_neg g1), hig2 _ (by first | exact if_pos g2 | exact if_neg g2)⟩

theorem s14 {t : Trap} {o w : AV} (H0 : TrIn t o w) (y : Wd) (n : Int) : Iso E 14 [trV t o w, .agg y.e, I n] false = some (Bo true) := by
  have ho := H0.o
  have hw := H0.w
  have c53 := fun st => s53 H0 st
  have d19 := s19
  cases hg : t.huge
  case true =>
    refine Iso_of (es _ _ _ _) e14 ?_
    simp only [f14, trV, hg, Wd.e] at c53 ⊢
    simp (disch := first | assumption | omega | (simp only [az]; done)) only [ru, eq_self, if_true, if_false, BEq.rfl, binI, AO.row?, splice, fillL, mmAll, loadV, storeV, zeros, Am.rowAt, Am.part, addOff, Nat.reduceAdd, Nat.reduceMul, Nat.reduceLeDiff, Nat.reduceSub, Nat.reduceLT, Int.reduceEq, Int.reduceLT, Int.reduceLE, Int.reduceGT, Int.reduceGE, Int.reduceAdd, Int.reduceSub, Int.reduceMul, Int.reduceNeg, Int.reduceToNat, reduceCtorEq, reduceIte, lenV_sl ho, elem_sl Ls.el ho, view_sl ho, scalar_sl ho, cells_sl ho, pure_sl ho, lenV_sl hw, elem_sl Wd.el hw, view_sl hw, scalar_sl hw, cells_sl hw, pure_sl hw, c53, d19]
  have H := H0.ok hg
  have HC := H.cpv
  have c41 := fun st => s41 H st
  obtain ⟨v1, e1, c29, A1⟩ := s29 HC y
  obtain ⟨v2, e2, c64, A2⟩ := s64 H y
  have A1' := cp_ansJ A1
  obtain ⟨rfl, rfl⟩ : v1 = v2 ∧ e1 = e2 := by
    have := A1'.uniq (fun _ _ hs a b ha hb => Prod.ext (ha.1.uniq hs hb.1) (ha.2.trans hb.2.symm)) A2
    simpa only [Prod.mk.injEq] using this
  obtain ⟨a3, b3, e3, c44, A3⟩ := s44 HC n
  obtain ⟨a4, b4, e4, c65, A4⟩ := s65 H n
  obtain ⟨rfl, rfl, rfl⟩ : a3 = a4 ∧ b3 = b4 ∧ e3 = e4 := by
    have := (cp_ansE A3).uniq (fun _ _ _ a b ha hb => ha.uniq hb) A4
    simpa only [Prod.mk.injEq] using this
  have c58 := fun st => s58 HC H st
  have hq := HC.o
  have hq' := HC.w
  simp only [cpV] at c41
  obtain ⟨o', eo⟩ : ∃ o', o' = cpO t.op := ⟨_, rfl⟩
  obtain ⟨w', ew⟩ : ∃ w', w' = slV 4 Wd.e t.ws := ⟨_, rfl⟩
  rw [← eo] at hq
  rw [← ew] at hq'
  refine Iso_of (es _ _ _ _) e14 ?_
  simp only [f14, trV, hg, ← eo, ← ew, Trap.cp, Wd.e] at c53 c41 c29 c64 c44 c65 c58 hq hq' ⊢
  simp (disch := first | assumption | omega | (simp only [az]; done)) only [ru, eq_self, if_true, if_false, BEq.rfl, binI, AO.row?, splice, fillL, mmAll, loadV, storeV, zeros, Am.rowAt, Am.part, addOff, Nat.reduceAdd, Nat.reduceMul, Nat.reduceLeDiff, Nat.reduceSub, Nat.reduceLT, Int.reduceEq, Int.reduceLT, Int.reduceLE, Int.reduceGT, Int.reduceGE, Int.reduceAdd, Int.reduceSub, Int.reduceMul, Int.reduceNeg, Int.reduceToNat, reduceCtorEq, reduceIte, lenV_sl ho, elem_sl Ls.el ho, view_sl ho, scalar_sl ho, cells_sl ho, pure_sl ho, lenV_sl hw, elem_sl Wd.el hw, view_sl hw, scalar_sl hw, cells_sl hw, pure_sl hw, lenV_sl hq, elem_sl Ls.el hq, view_sl hq, scalar_sl hq, cells_sl hq, pure_sl hq, lenV_sl hq', elem_sl Wd.el hq', view_sl hq', scalar_sl hq', cells_sl hq', pure_sl hq', c53, c41, c29, c64, c44, c65, c58, d19]
end Go.Proofs.Ytjaaefdhdggnkaa.S

/-
Whether a trap is ready; the law of time.
-/
namespace Go.Proofs.Ytjaaefdhdggnkaa.S
open Go Go.Am Go.Proofs.Ytjaaefdhdggnkaa.T
set_option maxRecDepth 100000
set_option linter.unusedSimpArgs false
set_option linter.unusedVariables false

def rdy (t : Trap) : Bool := !t.huge && t.valid
theorem s16 {t : Trap} {o w : AV} (H0 : TrIn t o w) (st : Bool) : Iso E 16 [trV t o w] st = some (Bo (rdy t)) := by
  have ho := H0.o
  have hw := H0.w
  have c53 := fun st => s53 H0 st
  unfold rdy
  cases hg : t.huge
  case true =>
    refine Iso_of (es _ _ _ _) e16 ?_
    simp only [f16, trV, hg] at c53 ⊢
    simp (disch := first | assumption | omega | (simp only [az]; done)) only [ru, eq_self, if_true, if_false, BEq.rfl, binI, AO.row?, splice, fillL, mmAll, loadV, storeV, zeros, Am.rowAt, Am.part, addOff, Nat.reduceAdd, Nat.reduceMul, Nat.reduceLeDiff, Nat.reduceSub, Nat.reduceLT, Int.reduceEq, Int.reduceLT, Int.reduceLE, Int.reduceGT, Int.reduceGE, Int.reduceAdd, Int.reduceSub, Int.reduceMul, Int.reduceNeg, Int.reduceToNat, reduceCtorEq, reduceIte, lenV_sl ho, elem_sl Ls.el ho, view_sl ho, scalar_sl ho, cells_sl ho, pure_sl ho, lenV_sl hw, elem_sl Wd.el hw, view_sl hw, scalar_sl hw, cells_sl hw, pure_sl hw, c53, gUn, Bool.not_true, Bool.false_and]
  have c55 := fun st => s55 (H0.ok hg) st
  refine Iso_of (es _ _ _ _) e16 ?_
  simp only [f16, trV, hg, chkE] at c53 c55 ⊢
  cases hv : t.valid
  · simp only [hv, Bool.false_eq_true, if_false] at c55
    simp (disch := first | assumption | omega | (simp only [az]; done)) only [ru, eq_self, if_true, if_false, BEq.rfl, binI, AO.row?, splice, fillL, mmAll, loadV, storeV, zeros, Am.rowAt, Am.part, addOff, Nat.reduceAdd, Nat.reduceMul, Nat.reduceLeDiff, Nat.reduceSub, Nat.reduceLT, Int.reduceEq, Int.reduceLT, Int.reduceLE, Int.reduceGT, Int.reduceGE, Int.reduceAdd, Int.reduceSub, Int.reduceMul, Int.reduceNeg, Int.reduceToNat, reduceCtorEq, reduceIte, lenV_sl ho, elem_sl Ls.el ho, view_sl ho, scalar_sl ho, cells_sl ho, pure_sl ho, lenV_sl hw, elem_sl Wd.el hw, view_sl hw, scalar_sl hw, cells_sl hw, pure_sl hw, c53, c55, Bool.not_false, Bool.true_and]
  · simp only [hv, if_true] at c55
    simp (disch := first | assumption | omega | (simp only [az]; done)) only [ru, eq_self, if_true, if_false, BEq.rfl, binI, AO.row?, splice, fillL, mmAll, loadV, storeV, zeros, Am.rowAt, Am.part, addOff, Nat.reduceAdd, Nat.reduceMul, Nat.reduceLeDiff, Nat.reduceSub, Nat.reduceLT, Int.reduceEq, Int.reduceLT, Int.reduceLE, Int.reduceGT, Int.reduceGE, Int.reduceAdd, Int.reduceSub, Int.reduceMul, Int.reduceNeg, Int.reduceToNat, reduceCtorEq, reduceIte, lenV_sl ho, elem_sl Ls.el ho, view_sl ho, scalar_sl ho, cells_sl ho, pure_sl ho, lenV_sl hw, elem_sl Wd.el hw, view_sl hw, scalar_sl hw, cells_sl hw, pure_sl hw, c53, c55, Bool.not_false, Bool.true_and]
theorem rdy_h {t : Trap} (h : rdy t = true) : t.huge = false ∧ t.valid = true := by
  unfold rdy at h
  simpa using h
set_option maxHeartbeats 2000000 in
theorem s42 (a b c d : Int) (st : Bool) : Iso E 42 [.agg [I a, I b], .agg [I c, I d]] st = some (Bo (decide (c ≤ a) && decide (a ≤ b) && decide (b ≤ d))) := by
  refine Iso_of (es _ _ _ _) e42 ?_
  simp only [f42]
  by_cases h1 : c ≤ a <;> by_cases h2 : a ≤ b <;> by_cases h3 : b ≤ d <;> simp (disch := first | assumption | omega | (simp only [az]; done)) only [ru, eq_self, if_true, if_false, BEq.rfl, binI, AO.row?, splice, fillL, mmAll, loadV, storeV, zeros, Am.rowAt, Am.part, addOff, Nat.reduceAdd, Nat.reduceMul, Nat.reduceLeDiff, Nat.reduceSub, Nat.reduceLT, Int.reduceEq, Int.reduceLT, Int.reduceLE, Int.reduceGT, Int.reduceGE, Int.reduceAdd, Int.reduceSub, Int.reduceMul, Int.reduceNeg, Int.reduceToNat, reduceCtorEq, reduceIte, h1, h2, h3, gUn, decide_true, decide_false, Bool.and_self, Bool.and_false, Bool.and_true, Bool.false_and]

section
variable {t : Trap} {fit : Bool} {f : (Nat → Int) → Int} {lo hi e : Int}
theorem Ans.val (A : Ans t fit f lo hi e) (hv : t.valid = true) (hf : fit = true) (hs : Solv t.C t.T t) : e = 0 ∧ Xt t f lo hi := by
  cases A with
  | bad h => rw [hv] at h; cases h
  | arg _ h => rw [hf] at h; cases h
  | none _ _ h => exact absurd hs h
  | ok _ _ _ h => exact ⟨rfl, h⟩
theorem Ans.non (A : Ans t fit f lo hi e) (hv : t.valid = true) (hf : fit = true) (hs : ¬ Solv t.C t.T t) : lo = 0 ∧ hi = 0 ∧ e = 3 := by
  cases A with
  | bad h => rw [hv] at h; cases h
  | arg _ h => rw [hf] at h; cases h
  | none _ _ h => exact ⟨rfl, rfl, rfl⟩
  | ok _ _ h _ => exact absurd h hs
theorem tr_mono (V : TrB t) {x : Nat → Int} (hx : Tr t x) {i c : Nat} (hc : c < t.C) : ∀ d, i + d < t.T → x (sumN t.C i c) ≤ x (sumN t.C (i + d) c)
  | 0, _ => Int.le_refl _
  | d + 1, h => by
    have h1 := tr_mono V hx (i := i) hc d (by omega)
    have eT := trT V
    have vo := V.o
    have := (hx.2.m (i + d) c (by omega) hc).1
    unfold flow at this
    rw [show i + (d + 1) = i + d + 1 from rfl]
    omega
theorem tr_le (V : TrB t) {x : Nat → Int} (hx : Tr t x) {i j c : Nat} (hc : c < t.C) (hij : i ≤ j) (hj : j < t.T) : x (sumN t.C i c) ≤ x (sumN t.C j c) := by
  have := tr_mono V hx hc (i := i) (j - i) (by omega)
  rwa [show i + (j - i) = j by omega] at this
theorem tr_40 (V : TrB t) {x : Nat → Int} (hx : Tr t x) {i j c : Nat} (hc : c < t.C) (hi : i < t.T) (hj : j < t.T) : x (sumN t.C j c) - x (sumN t.C i c) ≤ 40 := by
  have v2 := V.c1; have v4 := V.t1
  have eC := trC V; have eT := trT V
  have s := (sat_wid.1 hx.1).1 (sumN t.C j c) (sumN t.C i c) (sumN_lt (by omega) (by omega) (by omega)) (sumN_lt (by omega) (by omega) (by omega))
  exact s (by rw [sumN_in hc]; omega)
theorem gap_last {x : Nat → Int} {C i : Nat} (hC : 1 ≤ C) : gap C x i (C - 1) = x (sumN C i (C - 1)) - x 0 := by
  unfold gap
  rw [show C - 1 + 1 = C by omega, sumN_last]
/-- an end moves with the truths -/
theorem xt_le {f g : (Nat → Int) → Int} {a b c d : Int} (X : Xt t f a b) (Y : Xt t g c d) (h : ∀ x, Tr t x → f x ≤ g x) : a ≤ c ∧ b ≤ d := by
  obtain ⟨p, ⟨x, h1, h2⟩, y, h3, h4⟩ := xt_tr X
  obtain ⟨q, ⟨u, k1, k2⟩, v, k3, k4⟩ := xt_tr Y
  have a1 := h u k1
  have a2 := (p u k1).1
  have a3 := h y h3
  have a4 := (q y h3).2
  omega
end

set_option maxHeartbeats 2000000 in
theorem s7 {t : Trap} {o w : AV} (H0 : TrIn t o w) (a b c : Int) : Iso E 7 [trV t o w, I a, I b, I c] false = some (Bo true) := by
  have ho := H0.o
  have hw := H0.w
  have c16 := fun st => s16 H0 st
  have d19 := s19
  cases hr : rdy t
  case false =>
    refine Iso_of (es _ _ _ _) e7 ?_
    simp only [f7, trV, hr] at c16 ⊢
    simp (disch := first | assumption | omega | (simp only [az]; done)) only [ru, eq_self, if_true, if_false, BEq.rfl, binI, AO.row?, splice, fillL, mmAll, loadV, storeV, zeros, Am.rowAt, Am.part, addOff, Nat.reduceAdd, Nat.reduceMul, Nat.reduceLeDiff, Nat.reduceSub, Nat.reduceLT, Int.reduceEq, Int.reduceLT, Int.reduceLE, Int.reduceGT, Int.reduceGE, Int.reduceAdd, Int.reduceSub, Int.reduceMul, Int.reduceNeg, Int.reduceToNat, reduceCtorEq, reduceIte, lenV_sl ho, elem_sl Ls.el ho, view_sl ho, scalar_sl ho, cells_sl ho, pure_sl ho, lenV_sl hw, elem_sl Wd.el hw, view_sl hw, scalar_sl hw, cells_sl hw, pure_sl hw, c16, d19]
  obtain ⟨hg, hv⟩ := rdy_h hr
  have H := H0.ok hg
  have V := valid_trb hv
  have v1 := V.c0; have v2 := V.c1; have v3 := V.t0; have v4 := V.t1
  have eC := trC V; have eT := trT V
  simp only [trV, hr] at c16
  by_cases h1 : a < 0
  · refine Iso_of (es _ _ _ _) e7 ?_
    simp only [f7, trV]
    simp (disch := first | assumption | omega | (simp only [az]; done)) only [ru, eq_self, if_true, if_false, BEq.rfl, binI, AO.row?, splice, fillL, mmAll, loadV, storeV, zeros, Am.rowAt, Am.part, addOff, Nat.reduceAdd, Nat.reduceMul, Nat.reduceLeDiff, Nat.reduceSub, Nat.reduceLT, Int.reduceEq, Int.reduceLT, Int.reduceLE, Int.reduceGT, Int.reduceGE, Int.reduceAdd, Int.reduceSub, Int.reduceMul, Int.reduceNeg, Int.reduceToNat, reduceCtorEq, reduceIte, lenV_sl ho, elem_sl Ls.el ho, view_sl ho, scalar_sl ho, cells_sl ho, pure_sl ho, lenV_sl hw, elem_sl Wd.el hw, view_sl hw, scalar_sl hw, cells_sl hw, pure_sl hw, c16, d19, h1]
  by_cases h2 : a > b
  · refine Iso_of (es _ _ _ _) e7 ?_
    simp only [f7, trV]
    simp (disch := first | assumption | omega | (simp only [az]; done)) only [ru, eq_self, if_true, if_false, BEq.rfl, binI, AO.row?, splice, fillL, mmAll, loadV, storeV, zeros, Am.rowAt, Am.part, addOff, Nat.reduceAdd, Nat.reduceMul, Nat.reduceLeDiff, Nat.reduceSub, Nat.reduceLT, Int.reduceEq, Int.reduceLT, Int.reduceLE, Int.reduceGT, Int.reduceGE, Int.reduceAdd, Int.reduceSub, Int.reduceMul, Int.reduceNeg, Int.reduceToNat, reduceCtorEq, reduceIte, lenV_sl ho, elem_sl Ls.el ho, view_sl ho, scalar_sl ho, cells_sl ho, pure_sl ho, lenV_sl hw, elem_sl Wd.el hw, view_sl hw, scalar_sl hw, cells_sl hw, pure_sl hw, c16, d19, h1, h2]
  by_cases h3 : b > c
  · refine Iso_of (es _ _ _ _) e7 ?_
    simp only [f7, trV]
    simp (disch := first | assumption | omega | (simp only [az]; done)) only [ru, eq_self, if_true, if_false, BEq.rfl, binI, AO.row?, splice, fillL, mmAll, loadV, storeV, zeros, Am.rowAt, Am.part, addOff, Nat.reduceAdd, Nat.reduceMul, Nat.reduceLeDiff, Nat.reduceSub, Nat.reduceLT, Int.reduceEq, Int.reduceLT, Int.reduceLE, Int.reduceGT, Int.reduceGE, Int.reduceAdd, Int.reduceSub, Int.reduceMul, Int.reduceNeg, Int.reduceToNat, reduceCtorEq, reduceIte, lenV_sl ho, elem_sl Ls.el ho, view_sl ho, scalar_sl ho, cells_sl ho, pure_sl ho, lenV_sl hw, elem_sl Wd.el hw, view_sl hw, scalar_sl hw, cells_sl hw, pure_sl hw, c16, d19, h1, h2, h3]
  by_cases h4 : c ≥ t.tm
  · refine Iso_of (es _ _ _ _) e7 ?_
    simp only [f7, trV]
    simp (disch := first | assumption | omega | (simp only [az]; done)) only [ru, eq_self, if_true, if_false, BEq.rfl, binI, AO.row?, splice, fillL, mmAll, loadV, storeV, zeros, Am.rowAt, Am.part, addOff, Nat.reduceAdd, Nat.reduceMul, Nat.reduceLeDiff, Nat.reduceSub, Nat.reduceLT, Int.reduceEq, Int.reduceLT, Int.reduceLE, Int.reduceGT, Int.reduceGE, Int.reduceAdd, Int.reduceSub, Int.reduceMul, Int.reduceNeg, Int.reduceToNat, reduceCtorEq, reduceIte, lenV_sl ho, elem_sl Ls.el ho, view_sl ho, scalar_sl ho, cells_sl ho, pure_sl ho, lenV_sl hw, elem_sl Wd.el hw, view_sl hw, scalar_sl hw, cells_sl hw, pure_sl hw, c16, d19, h1, h2, h3, h4]
  have wl : wr .i64 (t.ch - 1) = t.ch - 1 := wr64 (by omega) (by omega)
  obtain ⟨l1, u1, e1, f1, A1⟩ := s32 H a (t.ch - 1)
  obtain ⟨l2, u2, e2, f2, A2⟩ := s32 H b (t.ch - 1)
  obtain ⟨l3, u3, e3, f3, A3⟩ := s23 H a
  obtain ⟨l4, u4, e4, f4, A4⟩ := s23 H b
  have p1 : placeB t a (t.ch - 1) = true := by simp only [placeB, Bool.and_eq_true, decide_eq_true_eq]; omega
  have p2 : placeB t b (t.ch - 1) = true := by simp only [placeB, Bool.and_eq_true, decide_eq_true_eq]; omega
  have p3 : timeB t a = true := by simp only [timeB, Bool.and_eq_true, decide_eq_true_eq]; omega
  have p4 : timeB t b = true := by simp only [timeB, Bool.and_eq_true, decide_eq_true_eq]; omega
  have p5 : timeB t c = true := by simp only [timeB, Bool.and_eq_true, decide_eq_true_eq]; omega
  simp only [trV] at f1 f2 f3 f4
  by_cases hs : Solv t.C t.T t
  case neg =>
    obtain ⟨rfl, rfl, rfl⟩ := A1.non hv p1 hs
    obtain ⟨rfl, rfl, rfl⟩ := A2.non hv p2 hs
    obtain ⟨rfl, rfl, rfl⟩ := A3.non hv p3 hs
    obtain ⟨rfl, rfl, rfl⟩ := A4.non hv p4 hs
    refine Iso_of (es _ _ _ _) e7 ?_
    simp only [f7, trV]
    simp (disch := first | assumption | omega | (simp only [az]; done)) only [ru, eq_self, if_true, if_false, BEq.rfl, binI, AO.row?, splice, fillL, mmAll, loadV, storeV, zeros, Am.rowAt, Am.part, addOff, Nat.reduceAdd, Nat.reduceMul, Nat.reduceLeDiff, Nat.reduceSub, Nat.reduceLT, Int.reduceEq, Int.reduceLT, Int.reduceLE, Int.reduceGT, Int.reduceGE, Int.reduceAdd, Int.reduceSub, Int.reduceMul, Int.reduceNeg, Int.reduceToNat, reduceCtorEq, reduceIte, lenV_sl ho, elem_sl Ls.el ho, view_sl ho, scalar_sl ho, cells_sl ho, pure_sl ho, lenV_sl hw, elem_sl Wd.el hw, view_sl hw, scalar_sl hw, cells_sl hw, pure_sl hw, c16, d19, h1, h2, h3, h4, wl, f1, f2, f3, f4]
  obtain ⟨rfl, X1⟩ := A1.val hv p1 hs
  obtain ⟨rfl, X2⟩ := A2.val hv p2 hs
  obtain ⟨rfl, X3⟩ := A3.val hv p3 hs
  obtain ⟨rfl, X4⟩ := A4.val hv p4 hs
  obtain ⟨l5, u5, e5, f5, A5⟩ := s24 H a b
  obtain ⟨l6, u6, e6, f6, A6⟩ := s24 H b c
  obtain ⟨l7, u7, e7', f7', A7⟩ := s24 H a c
  obtain ⟨rfl, X5⟩ := A5.val hv (by rw [p3, p4]; simp; omega) hs
  obtain ⟨rfl, X6⟩ := A6.val hv (by rw [p4, p5]; simp; omega) hs
  obtain ⟨rfl, X7⟩ := A7.val hv (by rw [p3, p5]; simp; omega) hs
  simp only [trV] at f5 f6 f7'
  obtain ⟨i, rfl⟩ : ∃ i : Nat, a = i := ⟨a.toNat, by omega⟩
  obtain ⟨j, rfl⟩ : ∃ j : Nat, b = j := ⟨b.toNat, by omega⟩
  obtain ⟨k, rfl⟩ : ∃ k : Nat, c = k := ⟨c.toNat, by omega⟩
  have el : (t.ch - 1).toNat = t.C - 1 := by omega
  simp only [Int.toNat_natCast, el] at X1 X2 X3 X4 X5 X6 X7
  have hij : i ≤ j := by omega
  have hjk : j ≤ k := by omega
  have hk : k < t.T := by omega
  have g1 := xt_le X1 X2 fun x hx => by
    rw [gap_last (by omega), gap_last (by omega)]
    have := tr_le V hx (c := t.C - 1) (by omega) hij (by omega)
    omega
  have g2 := xt_le X3 X4 fun x hx => by
    have := tr_le V hx (c := 0) (by omega) hij (by omega)
    omega
  have b5 : 0 ≤ l5 ∧ u5 ≤ 40 := by
    obtain ⟨_, ⟨x, k1, k2⟩, y, k3, k4⟩ := xt_tr X5
    have a1 := tr_le V k1 (c := 0) (by omega) hij (by omega)
    have a2 := tr_40 V k3 (i := i) (j := j) (c := 0) (by omega) (by omega) (by omega)
    omega
  have b6 : 0 ≤ l6 ∧ u6 ≤ 40 := by
    obtain ⟨_, ⟨x, k1, k2⟩, y, k3, k4⟩ := xt_tr X6
    have a1 := tr_le V k1 (c := 0) (by omega) hjk (by omega)
    have a2 := tr_40 V k3 (i := j) (j := k) (c := 0) (by omega) (by omega) (by omega)
    omega
  have g3 : l5 ≤ u5 ∧ l6 ≤ u6 ∧ l7 ≤ u7 ∧ l5 + l6 ≤ l7 ∧ u7 ≤ u5 + u6 := by
    obtain ⟨m5, ⟨x5, k1, k2⟩, _⟩ := xt_tr X5
    obtain ⟨m6, ⟨x6, k3, k4⟩, _⟩ := xt_tr X6
    obtain ⟨m7, ⟨x7, k5, k6⟩, y7, k7, k8⟩ := xt_tr X7
    try simp only at m5 m6 m7
    have q1 := m5 x5 k1
    have q2 := m6 x6 k3
    have q3 := m5 x7 k5
    have q4 := m6 x7 k5
    have q5 := m5 y7 k7
    have q6 := m6 y7 k7
    have q7 := m7 x7 k5
    omega
  have n1 : ¬ l2 < l1 := by omega
  have n2 : ¬ u2 < u1 := by omega
  have n3 : ¬ l4 < l3 := by omega
  have n4 : ¬ u4 < u3 := by omega
  have n5 : ¬ mmx false l5 l6 < 0 := by unfold mmx; simp only [Bool.false_eq_true, if_false]; split <;> omega
  have n6 : ¬ mmx true u5 u6 > 40 := by unfold mmx; simp only [if_true]; split <;> omega
  have w5 : wr .i64 (l5 + l6) = l5 + l6 := wr64 (by omega) (by omega)
  have w6 : wr .i64 (u5 + u6) = u5 + u6 := wr64 (by omega) (by omega)
  have in1 : l5 + l6 ≤ l7 := g3.2.2.2.1
  have in2 : l7 ≤ u7 := g3.2.2.1
  have in3 : u7 ≤ u5 + u6 := g3.2.2.2.2
  refine Iso_of (es _ _ _ _) e7 ?_
  simp only [f7, trV]
  simp (disch := first | assumption | omega | (simp only [az]; done)) only [ru, eq_self, if_true, if_false, BEq.rfl, binI, AO.row?, splice, fillL, mmAll, loadV, storeV, zeros, Am.rowAt, Am.part, addOff, Nat.reduceAdd, Nat.reduceMul, Nat.reduceLeDiff, Nat.reduceSub, Nat.reduceLT, Int.reduceEq, Int.reduceLT, Int.reduceLE, Int.reduceGT, Int.reduceGE, Int.reduceAdd, Int.reduceSub, Int.reduceMul, Int.reduceNeg, Int.reduceToNat, reduceCtorEq, reduceIte, lenV_sl ho, elem_sl Ls.el ho, view_sl ho, scalar_sl ho, cells_sl ho, pure_sl ho, lenV_sl hw, elem_sl Wd.el hw, view_sl hw, scalar_sl hw, cells_sl hw, pure_sl hw, c16, d19, h1, h2, h3, h4, wl, f1, f2, f3, f4]
  simp (disch := first | assumption | omega | (simp only [az]; done)) only [ru, eq_self, if_true, if_false, BEq.rfl, binI, AO.row?, splice, fillL, mmAll, loadV, storeV, zeros, Am.rowAt, Am.part, addOff, Nat.reduceAdd, Nat.reduceMul, Nat.reduceLeDiff, Nat.reduceSub, Nat.reduceLT, Int.reduceEq, Int.reduceLT, Int.reduceLE, Int.reduceGT, Int.reduceGE, Int.reduceAdd, Int.reduceSub, Int.reduceMul, Int.reduceNeg, Int.reduceToNat, reduceCtorEq, reduceIte, lenV_sl ho, elem_sl Ls.el ho, view_sl ho, scalar_sl ho, cells_sl ho, pure_sl ho, lenV_sl hw, elem_sl Wd.el hw, view_sl hw, scalar_sl hw, cells_sl hw, pure_sl hw, n1, n2, n3, n4, f5, f6, f7']
  simp (disch := first | assumption | omega | (simp only [az]; done)) only [ru, eq_self, if_true, if_false, BEq.rfl, binI, AO.row?, splice, fillL, mmAll, loadV, storeV, zeros, Am.rowAt, Am.part, addOff, Nat.reduceAdd, Nat.reduceMul, Nat.reduceLeDiff, Nat.reduceSub, Nat.reduceLT, Int.reduceEq, Int.reduceLT, Int.reduceLE, Int.reduceGT, Int.reduceGE, Int.reduceAdd, Int.reduceSub, Int.reduceMul, Int.reduceNeg, Int.reduceToNat, reduceCtorEq, reduceIte, n5, n6, w5, w6, s42, in1, in2, in3, decide_true, Bool.and_self, d19]
end Go.Proofs.Ytjaaefdhdggnkaa.S

