/-
The examples of the chapters 1 and 5: weighed.
-/
import Derived.Test.YtjmelmmhnpgneaaC2
import Derived.Test.YtjmelmmhnpgneaaA3
namespace Go.Proofs.Ytjmelmmhnpgneaa.S
open Go Go.Am Go.Proofs.Ytjmelmmhnpgneaa.T
set_option maxRecDepth 100000
set_option linter.unusedSimpArgs false
set_option linter.unusedVariables false

theorem Iso_run {n f : Nat} {args : List AV} {st : Bool} {v : AV} (h : ((callN E n (.fn f) args [] 0).bind fun y => view st y.2 8 y.1) = some v) : Iso E f args st = some v := by
  cases hc : callN E n (.fn f) args [] 0 with
  | none => rw [hc] at h; cases h
  | some y =>
    rw [hc] at h
    obtain ⟨r, h'⟩ := y
    have := R_run hc
    simp only [Iso, this]
    exact h
def sea0 : AV := .agg [I 100, I 120, .cs 2 3 [I 2, I 6, I 3, I 5, I 4, I 6], .cs 2 4 [I 50, I 4, I 60, I 7, I 45, I 2, I 70, I 9]]
def sea1 : AV := .agg [I 100, I 120, .cs 2 3 [I 2, I 6, I 3, I 5, I 4, I 6], .cs 2 2 [I 50, I 4, I 45, I 2]]
theorem ex5 : Iso E 23 [] false = some (.tup [sea0, sea1]) := Iso_run (n := 60) (by kernel_rfl)
theorem ch5 : Iso E 25 [sea0] false = some (.tup [I 20, I 0]) := Iso_run (n := 100) (by kernel_rfl)
theorem fi3 (st : Bool) : Iso E 24 [trV T0 o0 w0, I 2, I 1] st = some (.tup [.agg [I 4, I 10], I 0]) := by
  obtain ⟨lo, hi, e, h, A⟩ := s32 ok0 2 1
  obtain ⟨rfl, X⟩ := A.val val0 (by decide) solv0
  have e1 : ∀ x : Nat → Int, gap T0.C x (2 : Int).toNat (1 : Int).toNat = x 10 - x 0 := fun x => rfl
  simp only [e1] at X
  obtain ⟨x0, ⟨u, u1, u2⟩, v, v1, v2⟩ := xt_tr X
  try simp only at x0 u2 v2
  have p := x0 xA tA
  have q := x0 xB tB
  have pa : xA 10 - xA 0 = 4 := rfl
  have qb : xB 10 - xB 0 = 10 := rfl
  have tu := T0_tr u1
  have tv := T0_tr v1
  obtain rfl : lo = 4 := by omega
  obtain rfl : hi = 10 := by omega
  exact h st
set_option maxHeartbeats 1000000 in
theorem sWeighed : Iso E 10 [] false = some (Bo true) := by
  have a := s70
  have b1 := fun st => fi3 st
  have b2 := ex5
  have b3 := ch5
  obtain ⟨o, ho⟩ : ∃ o, o = o0 := ⟨_, rfl⟩
  obtain ⟨w, hw⟩ : ∃ w, w = w0 := ⟨_, rfl⟩
  have H : TrOk T0 o w := by rw [ho, hw]; exact ok0
  rw [← ho, ← hw] at a
  simp only [← ho, ← hw] at b1
  have HQ := add_ok ok0 (by decide) y0
  have ho' := HQ.o
  have hw' := HQ.w
  obtain ⟨o', eo⟩ : ∃ o', o' = cpO (T0.add y0).op := ⟨_, rfl⟩
  obtain ⟨w', ew⟩ : ∃ w', w' = slV 4 Wd.e (T0.add y0).ws := ⟨_, rfl⟩
  rw [← eo] at ho'
  rw [← ew] at hw'
  have eQ : cpV (T0.add y0) = .agg [I 2, I 3, o', w'] := by rw [eo, ew]; rfl
  have eT : trV T0 o w = .agg [I 2, I 3, o, w] := rfl
  rw [eT, eQ] at a
  simp only [eT] at b1
  simp only [sea0, sea1] at b2 b3
  refine Iso_of (es _ _ _ _) e10 ?_
  simp only [f10]
  simp (disch := first | assumption | omega | (simp only [az]; done)) only [ru, eq_self, if_true, if_false, BEq.rfl, binI, AO.row?, splice, fillL, mmAll, loadV, storeV, zeros, Am.rowAt, Am.part, addOff, Nat.reduceAdd, Nat.reduceMul, Nat.reduceLeDiff, Nat.reduceSub, Nat.reduceLT, Int.reduceEq, Int.reduceLT, Int.reduceLE, Int.reduceGT, Int.reduceGE, Int.reduceAdd, Int.reduceSub, Int.reduceMul, Int.reduceNeg, Int.reduceToNat, reduceCtorEq, reduceIte, a, b1, b2, b3, lenV_sl H.o, lenV_sl H.w, elem_sl Ls.el H.o, elem_sl Wd.el H.w, view_sl H.o, view_sl H.w, scalar_sl H.o, scalar_sl H.w, cells_sl H.o, cells_sl H.w, pure_sl H.o, pure_sl H.w, Int.toNat_natCast, lenV_sl ho', elem_sl Ls.el ho', view_sl ho', scalar_sl ho', cells_sl ho', pure_sl ho', lenV_sl hw', elem_sl Wd.el hw', view_sl hw', scalar_sl hw', cells_sl hw', pure_sl hw', pex_eqS, eqI2, decide_true, Bool.and_self, gUn]
  done
end Go.Proofs.Ytjmelmmhnpgneaa.S
