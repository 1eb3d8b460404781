/-
What the laws ask; one penny more; where it is reached.
-/
import Derived.Test.YtaeijjfgfenfhaaS2
namespace Go.Proofs.Ytaeijjfgfenfhaa.S
open Go Go.Am Go.Proofs.Ytaeijjfgfenfhaa.T
set_option maxRecDepth 100000
set_option linter.unusedSimpArgs false
set_option linter.unusedVariables false

theorem fit_val {C : List Nd} (H : CuOk C) (b : Bool) : fitE C b [] = if b = true then 0 else 1 := by
  unfold fitE
  rw [if_neg (by rw [cuOk_iff.2 H]; simp), if_neg (by simp)]
  cases b <;> simp
theorem find_cases (q : Nat → Bool) : ∀ n, (∃ k, (List.range n).find? q = some k ∧ k < n ∧ q k = true ∧ ∀ i, i < k → q i = false) ∨ ((List.range n).find? q = none ∧ ∀ i, i < n → q i = false)
  | 0 => .inr ⟨rfl, fun i h => by omega⟩
  | n + 1 => by
    rcases find_cases q n with ⟨k, h1, h2, h3, h4⟩ | ⟨h1, h2⟩
    · exact .inl ⟨k, by rw [List.range_succ, List.find?_append, h1]; rfl, by omega, h3, h4⟩
    · cases hq : q n with
      | true => exact .inl ⟨n, by rw [List.range_succ, List.find?_append, h1]; simp [hq], by omega, hq, h2⟩
      | false => exact .inr ⟨find_none h1 hq, fun i hi => if e : i = n then by rw [e]; exact hq else h2 i (by omega)⟩
theorem fr_cases (last : Nat) (q : Nat → Bool) : (∃ k : Nat, frE last q = 0 ∧ frN last q = k ∧ k ≤ last ∧ q k = true ∧ ∀ i, i < k → q i = false) ∨ (frE last q = 3 ∧ frN last q = 0 ∧ ∀ i, i ≤ last → q i = false) := by
  unfold frE frN
  rcases find_cases q (last + 1) with ⟨k, h1, h2, h3, h4⟩ | ⟨h1, h2⟩
  · exact .inl ⟨k, by rw [h1], by rw [h1], by omega, h3, h4⟩
  · exact .inr ⟨by rw [h1], by rw [h1], fun i hi => h2 i (by omega)⟩
theorem gL_len {C : List Nd} {p : Int} : (gL C p).length = C.length := by simp [gL]
theorem kL_len {C : List Nd} {p : Int} : (kL C p).length = C.length := by simp [kL]
theorem gL_at {C : List Nd} {p : Int} {j : Nat} (hj : j < C.length) : (gL C p).getD j 0 = gG C p j := rmap_at hj
theorem kL_at {C : List Nd} {p : Int} {j : Nat} (hj : j < C.length) : (kL C p).getD j 0 = kK C p j := rmap_at hj
def rdy (C : List Nd) : Bool := !far C && cuB C
theorem rdy_ok {C : List Nd} (h : rdy C = true) : CuOk C ∧ C.length ≤ 1000 := by
  simp only [rdy, Bool.and_eq_true, Bool.not_eq_true'] at h
  have H := cuOk_iff.1 h.2
  exact ⟨H, by have := H.n8; omega⟩
section
variable {C : List Nd} {v : AV} (hv : IsSl 3 Nd.e C v)
include hv
theorem t45r (st : Bool) : Iso E 45 [cuV v] st = some (Bo (rdy C)) := t45 hv st
theorem t47 (H : CuOk C) {p : Int} (hp : 0 ≤ p) (hp4 : p ≤ 400) : Iso E 47 [cuV v, I p] false = some (.tup [resL (gL C p), Bo true]) := by
  have hl : C.length ≤ 1000 := by have := H.n8; omega
  refine Iso_of (es _ _ _ _) e47 ?_
  simp only [f47]
  have h21 := t21 hv hl p
  have ip : inR p 0 400 = true := inR_iff.2 ⟨hp, hp4⟩
  rw [ip, fit_val H true] at h21
  unfold ansL at h21
  simp only [if_true] at h21
  have rl := resL_is (gL C p)
  obtain ⟨w, hw⟩ : ∃ w, w = resL (gL C p) := ⟨_, rfl⟩
  rw [← hw] at h21 rl ⊢
  have hb1 : ((0 : Int) != 0) = false := rfl
  have hb2 : ((C.length : Int) != C.length) = false := by simp
  simp (disch := first | assumption | omega | (simp only [az]; done)) only [ru, eq_self, if_true, if_false, BEq.rfl, binI, AO.row?, splice, fillL, mmAll, loadV, storeV, zeros, Am.rowAt, Am.part, addOff, Nat.reduceAdd, Nat.reduceMul, Nat.reduceLeDiff, Nat.reduceSub, Nat.reduceLT, Int.reduceEq, Int.reduceLT, Int.reduceLE, Int.reduceGT, Int.reduceGE, Int.reduceAdd, Int.reduceSub, Int.reduceMul, Int.reduceNeg, Int.reduceToNat, reduceCtorEq, reduceIte, lenV_sl hv, view_sl hv, scalar_sl hv, cells_sl hv, pure_sl hv, h21, lenV_sl rl, elem_in rl, view_sl rl, scalar_sl rl, cells_sl rl, pure_sl rl, Int.toNat_natCast, hb1, gUn, gL_len, hb2]
  refine G_loop_ind (fun y ts hk mk => ∃ i : Nat, i ≤ C.length ∧ y = C.length - i ∧ ts.length = 39 ∧ ts.getD 1 .undef = I p ∧ ts.getD 6 .undef = w ∧ ts.getD 8 .undef = I i ∧ mk = []) ?_ C.length _ _ _ ⟨0, Nat.zero_le _, rfl, rfl, rfl, rfl, rfl, rfl⟩
  rintro y ts hk mk ih ⟨i, hi, rfl, hl', q1, q6, q8, rfl⟩
  rw [lit_all hl']
  simp only [lit0, litS, Nat.reduceAdd, q1, q6, q8]
  by_cases hlt : (i : Int) < C.length
  · have b := gG_bd H hp i (by omega)
    have hin : inR (gG C p i) 0 p = true := inR_iff.2 b
    have hlt2 : (i : Int) < ((gL C p).length : Int) := by rw [gL_len]; exact hlt
    simp (disch := first | assumption | omega | (simp only [az]; done)) only [ru, eq_self, if_true, if_false, BEq.rfl, binI, AO.row?, splice, fillL, mmAll, loadV, storeV, zeros, Am.rowAt, Am.part, addOff, Nat.reduceAdd, Nat.reduceMul, Nat.reduceLeDiff, Nat.reduceSub, Nat.reduceLT, Int.reduceEq, Int.reduceLT, Int.reduceLE, Int.reduceGT, Int.reduceGE, Int.reduceAdd, Int.reduceSub, Int.reduceMul, Int.reduceNeg, Int.reduceToNat, reduceCtorEq, reduceIte, hlt, lenV_sl rl, elem_in rl, view_sl rl, scalar_sl rl, cells_sl rl, pure_sl rl, Int.toNat_natCast, gL_len, gL_at (C := C) (p := p) (j := i) (by omega), s57, hin, Bool.not_true]
    exact ih (C.length - (i + 1)) _ _ _ (by omega) ⟨i + 1, by omega, rfl, rfl, rfl, rfl, rfl, rfl⟩
  · simp (disch := first | assumption | omega | (simp only [az]; done)) only [ru, eq_self, if_true, if_false, BEq.rfl, binI, AO.row?, splice, fillL, mmAll, loadV, storeV, zeros, Am.rowAt, Am.part, addOff, Nat.reduceAdd, Nat.reduceMul, Nat.reduceLeDiff, Nat.reduceSub, Nat.reduceLT, Int.reduceEq, Int.reduceLT, Int.reduceLE, Int.reduceGT, Int.reduceGE, Int.reduceAdd, Int.reduceSub, Int.reduceMul, Int.reduceNeg, Int.reduceToNat, reduceCtorEq, reduceIte, hlt, lenV_sl rl, elem_in rl, view_sl rl, scalar_sl rl, cells_sl rl, pure_sl rl, Int.toNat_natCast, gL_len]
    done
theorem l9 (p : Int) (st : Bool) : Iso E 9 [cuV v, I p] st = some (Bo true) := by
  refine Iso_of (es _ _ _ _) e9 ?_
  simp only [f9]
  cases hr : rdy C
  · simp (disch := first | assumption | omega | (simp only [az]; done)) only [ru, eq_self, if_true, if_false, BEq.rfl, binI, AO.row?, splice, fillL, mmAll, loadV, storeV, zeros, Am.rowAt, Am.part, addOff, Nat.reduceAdd, Nat.reduceMul, Nat.reduceLeDiff, Nat.reduceSub, Nat.reduceLT, Int.reduceEq, Int.reduceLT, Int.reduceLE, Int.reduceGT, Int.reduceGE, Int.reduceAdd, Int.reduceSub, Int.reduceMul, Int.reduceNeg, Int.reduceToNat, reduceCtorEq, reduceIte, lenV_sl hv, view_sl hv, scalar_sl hv, cells_sl hv, pure_sl hv, t45r hv, hr, Bool.not_false, gUn, t17]
  obtain ⟨H, hl⟩ := rdy_ok hr
  cases hp : inR p 0 399
  · simp (disch := first | assumption | omega | (simp only [az]; done)) only [ru, eq_self, if_true, if_false, BEq.rfl, binI, AO.row?, splice, fillL, mmAll, loadV, storeV, zeros, Am.rowAt, Am.part, addOff, Nat.reduceAdd, Nat.reduceMul, Nat.reduceLeDiff, Nat.reduceSub, Nat.reduceLT, Int.reduceEq, Int.reduceLT, Int.reduceLE, Int.reduceGT, Int.reduceGE, Int.reduceAdd, Int.reduceSub, Int.reduceMul, Int.reduceNeg, Int.reduceToNat, reduceCtorEq, reduceIte, lenV_sl hv, view_sl hv, scalar_sl hv, cells_sl hv, pure_sl hv, t45r hv, hr, Bool.not_true, Bool.not_false, gUn, s57, hp, t17]
  have hp' := inR_iff.1 hp
  have ew := wr64 (n := p + 1) (by omega) (by omega)
  have r1 := resL_is (gL C p)
  have r2 := resL_is (gL C (p + 1))
  have h1 := t47 hv H hp'.1 (by omega)
  have h2 := t47 hv H (p := p + 1) (by omega) (by omega)
  obtain ⟨w1, hw1⟩ : ∃ w, w = resL (gL C p) := ⟨_, rfl⟩
  obtain ⟨w2, hw2⟩ : ∃ w, w = resL (gL C (p + 1)) := ⟨_, rfl⟩
  rw [← hw1] at r1 h1
  rw [← hw2] at r2 h2
  simp (disch := first | assumption | omega | (simp only [az]; done)) only [ru, eq_self, if_true, if_false, BEq.rfl, binI, AO.row?, splice, fillL, mmAll, loadV, storeV, zeros, Am.rowAt, Am.part, addOff, Nat.reduceAdd, Nat.reduceMul, Nat.reduceLeDiff, Nat.reduceSub, Nat.reduceLT, Int.reduceEq, Int.reduceLT, Int.reduceLE, Int.reduceGT, Int.reduceGE, Int.reduceAdd, Int.reduceSub, Int.reduceMul, Int.reduceNeg, Int.reduceToNat, reduceCtorEq, reduceIte, lenV_sl hv, view_sl hv, scalar_sl hv, cells_sl hv, pure_sl hv, t45r hv, hr, Bool.not_true, Bool.not_false, gUn, s57, hp, h1, h2, ew, lenV_sl r1, elem_in r1, view_sl r1, scalar_sl r1, cells_sl r1, pure_sl r1, Int.toNat_natCast, lenV_sl r2, elem_in r2, view_sl r2, scalar_sl r2, cells_sl r2, pure_sl r2, Int.toNat_natCast]
  refine G_loop_ind (fun y ts hk mk => ∃ i : Nat, i ≤ C.length ∧ y = C.length - i ∧ ts.length = 67 ∧ ts.getD 5 .undef = w1 ∧ ts.getD 7 .undef = w2 ∧ ts.getD 9 .undef = I i ∧ mk = []) ?_ C.length _ _ _ ⟨0, Nat.zero_le _, rfl, rfl, rfl, rfl, rfl, rfl⟩
  rintro y ts hk mk ih ⟨i, hi, rfl, hl', q5, q7, q9, rfl⟩
  rw [lit_all hl']
  simp only [lit0, litS, Nat.reduceAdd, q5, q7, q9]
  by_cases hlt : (i : Int) < C.length
  · have b := gG_bd H hp'.1 i (by omega)
    have pn := gG_pen H hp'.1 i (by omega)
    have hltw : (i : Int) < ((gL C (p + 1)).length : Int) := by rw [gL_len]; exact hlt
    have hltv : (i : Int) < ((gL C p).length : Int) := by rw [gL_len]; exact hlt
    have ea := wr64 (n := gG C p i + 1) (by omega) (by omega)
    have eb := wr64 (n := gG C p i - 1) (by omega) (by omega)
    have c1 : ¬ gG C (p + 1) i > gG C p i + 1 := by omega
    have c2 : ¬ gG C (p + 1) i < gG C p i - 1 := by omega
    simp (disch := first | assumption | omega | (simp only [az]; done)) only [ru, eq_self, if_true, if_false, BEq.rfl, binI, AO.row?, splice, fillL, mmAll, loadV, storeV, zeros, Am.rowAt, Am.part, addOff, Nat.reduceAdd, Nat.reduceMul, Nat.reduceLeDiff, Nat.reduceSub, Nat.reduceLT, Int.reduceEq, Int.reduceLT, Int.reduceLE, Int.reduceGT, Int.reduceGE, Int.reduceAdd, Int.reduceSub, Int.reduceMul, Int.reduceNeg, Int.reduceToNat, reduceCtorEq, reduceIte, hlt, hltw, lenV_sl r1, elem_in r1, view_sl r1, scalar_sl r1, cells_sl r1, pure_sl r1, Int.toNat_natCast, lenV_sl r2, elem_in r2, view_sl r2, scalar_sl r2, cells_sl r2, pure_sl r2, Int.toNat_natCast, gL_len, gL_at (C := C) (p := p) (j := i) (by omega), gL_at (C := C) (p := p + 1) (j := i) (by omega), ea, eb, c1, c2, decide_false, gUn]
    exact ih (C.length - (i + 1)) _ _ _ (by omega) ⟨i + 1, by omega, rfl, rfl, rfl, rfl, rfl, rfl⟩
  · simp (disch := first | assumption | omega | (simp only [az]; done)) only [ru, eq_self, if_true, if_false, BEq.rfl, binI, AO.row?, splice, fillL, mmAll, loadV, storeV, zeros, Am.rowAt, Am.part, addOff, Nat.reduceAdd, Nat.reduceMul, Nat.reduceLeDiff, Nat.reduceSub, Nat.reduceLT, Int.reduceEq, Int.reduceLT, Int.reduceLE, Int.reduceGT, Int.reduceGE, Int.reduceAdd, Int.reduceSub, Int.reduceMul, Int.reduceNeg, Int.reduceToNat, reduceCtorEq, reduceIte, hlt, lenV_sl r1, elem_in r1, view_sl r1, scalar_sl r1, cells_sl r1, pure_sl r1, Int.toNat_natCast, gL_len, t17]
/-- From -/
theorem x29r (H : CuOk C) {j : Nat} (hj : j < C.length) {c : Int} (hc : inR c 0 400 = true) (st : Bool) : Iso E 29 [cuV v, I j, I c] st = some (.tup [I (frN 400 fun p => decide (gG C p j ≥ c)), I (frE 400 fun p => decide (gG C p j ≥ c))]) := by
  have h := t29 hv (by have := H.n8; omega) (j : Int) c st
  have hi : inR (j : Int) 0 (C.length - 1) = true := inR_iff.2 (by omega)
  rw [hi, hc, Bool.and_self, fit_val H, if_pos rfl, ansN, if_pos rfl, Int.toNat_natCast] at h
  exact h
theorem l15 (m : Tm) (c : Int) (st : Bool) : Iso E 15 [cuV v, .agg [I m.t, I m.n, I m.p], I c] st = some (Bo true) := by
  refine Iso_of (es _ _ _ _) e15 ?_
  simp only [f15]
  cases hr : rdy C
  · simp (disch := first | assumption | omega | (simp only [az]; done)) only [ru, eq_self, if_true, if_false, BEq.rfl, binI, AO.row?, splice, fillL, mmAll, loadV, storeV, zeros, Am.rowAt, Am.part, addOff, Nat.reduceAdd, Nat.reduceMul, Nat.reduceLeDiff, Nat.reduceSub, Nat.reduceLT, Int.reduceEq, Int.reduceLT, Int.reduceLE, Int.reduceGT, Int.reduceGE, Int.reduceAdd, Int.reduceSub, Int.reduceMul, Int.reduceNeg, Int.reduceToNat, reduceCtorEq, reduceIte, lenV_sl hv, view_sl hv, scalar_sl hv, cells_sl hv, pure_sl hv, t45r hv, hr, Bool.not_false, gUn, t17]
  obtain ⟨H, hl⟩ := rdy_ok hr
  cases hn : inR m.n 0 (C.length - 1)
  · simp (disch := first | assumption | omega | (simp only [az]; done)) only [ru, eq_self, if_true, if_false, BEq.rfl, binI, AO.row?, splice, fillL, mmAll, loadV, storeV, zeros, Am.rowAt, Am.part, addOff, Nat.reduceAdd, Nat.reduceMul, Nat.reduceLeDiff, Nat.reduceSub, Nat.reduceLT, Int.reduceEq, Int.reduceLT, Int.reduceLE, Int.reduceGT, Int.reduceGE, Int.reduceAdd, Int.reduceSub, Int.reduceMul, Int.reduceNeg, Int.reduceToNat, reduceCtorEq, reduceIte, lenV_sl hv, view_sl hv, scalar_sl hv, cells_sl hv, pure_sl hv, t45r hv, hr, Bool.not_true, Bool.not_false, gUn, t49 hv hl, hn, t17]
  cases hc : inR c 0 400
  · simp (disch := first | assumption | omega | (simp only [az]; done)) only [ru, eq_self, if_true, if_false, BEq.rfl, binI, AO.row?, splice, fillL, mmAll, loadV, storeV, zeros, Am.rowAt, Am.part, addOff, Nat.reduceAdd, Nat.reduceMul, Nat.reduceLeDiff, Nat.reduceSub, Nat.reduceLT, Int.reduceEq, Int.reduceLT, Int.reduceLE, Int.reduceGT, Int.reduceGE, Int.reduceAdd, Int.reduceSub, Int.reduceMul, Int.reduceNeg, Int.reduceToNat, reduceCtorEq, reduceIte, lenV_sl hv, view_sl hv, scalar_sl hv, cells_sl hv, pure_sl hv, t45r hv, hr, Bool.not_true, Bool.not_false, gUn, t49 hv hl, hn, t46, hc, t17]
  have hn' := inR_iff.1 hn
  have hc' := inR_iff.1 hc
  obtain ⟨j, hj⟩ : ∃ j : Nat, m.n = j := ⟨m.n.toNat, by omega⟩
  rw [hj] at hn hn' ⊢
  have hjl : j < C.length := by omega
  have h29 := fun st => x29r hv H hjl hc st
  have n33 : ((3 : Int) != 3) = false := rfl
  have n30 : ((3 : Int) != 0) = true := rfl
  have n00 : ((0 : Int) != 0) = false := rfl
  have e30 : ((3 : Int) == 0) = false := rfl
  have e00 : ((0 : Int) == 0) = true := rfl
  rcases fr_cases 400 (fun p => decide (gG C p j ≥ c)) with ⟨k, f1, f2, hk, hq, hbe⟩ | ⟨f1, f2, hbe⟩
  · have ik : inR (k : Int) 0 400 = true := inR_iff.2 (by omega)
    have hg := t47 hv H (p := (k : Int)) (by omega) (by omega)
    have rl := resL_is (gL C k)
    obtain ⟨w, hw⟩ : ∃ w, w = resL (gL C k) := ⟨_, rfl⟩
    rw [← hw] at hg rl
    have hat := gL_at (C := C) (p := (k : Int)) hjl
    have hlt : (j : Int) < ((gL C k).length : Int) := by rw [gL_len]; omega
    have heq : gG C k j = c := by
      have h1 : gG C k j ≥ c := by simpa using hq
      by_cases k0 : k = 0
      · subst k0
        have := gG_bd H (p := ((0 : Nat) : Int)) (by omega) j hjl
        omega
      · have h2 := hbe (k - 1) (by omega)
        simp only [decide_eq_false_iff_not] at h2
        have pn := gG_pen H (p := ((k - 1 : Nat) : Int)) (by omega) j hjl
        have e : ((k - 1 : Nat) : Int) + 1 = (k : Int) := by omega
        rw [e] at pn
        omega
    have hne : (c != c) = false := by simp
    cases hp : inR m.p 0 400
    · simp (disch := first | assumption | omega | (simp only [az]; done)) only [ru, eq_self, if_true, if_false, BEq.rfl, binI, AO.row?, splice, fillL, mmAll, loadV, storeV, zeros, Am.rowAt, Am.part, addOff, Nat.reduceAdd, Nat.reduceMul, Nat.reduceLeDiff, Nat.reduceSub, Nat.reduceLT, Int.reduceEq, Int.reduceLT, Int.reduceLE, Int.reduceGT, Int.reduceGE, Int.reduceAdd, Int.reduceSub, Int.reduceMul, Int.reduceNeg, Int.reduceToNat, reduceCtorEq, reduceIte, lenV_sl hv, view_sl hv, scalar_sl hv, cells_sl hv, pure_sl hv, t45r hv, hr, Bool.not_true, Bool.not_false, gUn, t49 hv hl, hn, t46, hc, h29, f1, f2, n00, e00, ik, hg, lenV_sl rl, elem_in rl, view_sl rl, scalar_sl rl, cells_sl rl, pure_sl rl, Int.toNat_natCast, hat, heq, hne, hp, t17]
    · by_cases hpk : m.p ≥ k
      · simp (disch := first | assumption | omega | (simp only [az]; done)) only [ru, eq_self, if_true, if_false, BEq.rfl, binI, AO.row?, splice, fillL, mmAll, loadV, storeV, zeros, Am.rowAt, Am.part, addOff, Nat.reduceAdd, Nat.reduceMul, Nat.reduceLeDiff, Nat.reduceSub, Nat.reduceLT, Int.reduceEq, Int.reduceLT, Int.reduceLE, Int.reduceGT, Int.reduceGE, Int.reduceAdd, Int.reduceSub, Int.reduceMul, Int.reduceNeg, Int.reduceToNat, reduceCtorEq, reduceIte, lenV_sl hv, view_sl hv, scalar_sl hv, cells_sl hv, pure_sl hv, t45r hv, hr, Bool.not_true, Bool.not_false, gUn, t49 hv hl, hn, t46, hc, h29, f1, f2, n00, e00, ik, hg, lenV_sl rl, elem_in rl, view_sl rl, scalar_sl rl, cells_sl rl, pure_sl rl, Int.toNat_natCast, hat, heq, hne, hp, hpk, decide_true, t17]
      · have hp' := inR_iff.1 hp
        obtain ⟨q, hq'⟩ : ∃ q : Nat, m.p = q := ⟨m.p.toNat, by omega⟩
        rw [hq'] at hp hpk hp' ⊢
        have hg2 := t47 hv H (p := (q : Int)) (by omega) (by omega)
        have rl2 := resL_is (gL C q)
        obtain ⟨w2, hw2⟩ : ∃ w, w = resL (gL C q) := ⟨_, rfl⟩
        rw [← hw2] at hg2 rl2
        have hat2 := gL_at (C := C) (p := (q : Int)) hjl
        have hlt2 : (j : Int) < ((gL C q).length : Int) := by rw [gL_len]; omega
        have hless : gG C q j < c := by
          have := hbe q (by omega)
          simp only [decide_eq_false_iff_not] at this; omega
        simp (disch := first | assumption | omega | (simp only [az]; done)) only [ru, eq_self, if_true, if_false, BEq.rfl, binI, AO.row?, splice, fillL, mmAll, loadV, storeV, zeros, Am.rowAt, Am.part, addOff, Nat.reduceAdd, Nat.reduceMul, Nat.reduceLeDiff, Nat.reduceSub, Nat.reduceLT, Int.reduceEq, Int.reduceLT, Int.reduceLE, Int.reduceGT, Int.reduceGE, Int.reduceAdd, Int.reduceSub, Int.reduceMul, Int.reduceNeg, Int.reduceToNat, reduceCtorEq, reduceIte, lenV_sl hv, view_sl hv, scalar_sl hv, cells_sl hv, pure_sl hv, t45r hv, hr, Bool.not_true, Bool.not_false, gUn, t49 hv hl, hn, t46, hc, h29, f1, f2, n00, e00, ik, hg, lenV_sl rl, elem_in rl, view_sl rl, scalar_sl rl, cells_sl rl, pure_sl rl, Int.toNat_natCast, hat, heq, hne, hp, hpk, decide_true, decide_false, hg2, lenV_sl rl2, elem_in rl2, view_sl rl2, scalar_sl rl2, cells_sl rl2, pure_sl rl2, Int.toNat_natCast, hat2, hless, t17]
  · cases hp : inR m.p 0 400
    · simp (disch := first | assumption | omega | (simp only [az]; done)) only [ru, eq_self, if_true, if_false, BEq.rfl, binI, AO.row?, splice, fillL, mmAll, loadV, storeV, zeros, Am.rowAt, Am.part, addOff, Nat.reduceAdd, Nat.reduceMul, Nat.reduceLeDiff, Nat.reduceSub, Nat.reduceLT, Int.reduceEq, Int.reduceLT, Int.reduceLE, Int.reduceGT, Int.reduceGE, Int.reduceAdd, Int.reduceSub, Int.reduceMul, Int.reduceNeg, Int.reduceToNat, reduceCtorEq, reduceIte, lenV_sl hv, view_sl hv, scalar_sl hv, cells_sl hv, pure_sl hv, t45r hv, hr, Bool.not_true, Bool.not_false, gUn, t49 hv hl, hn, t46, hc, h29, f1, f2, n30, n33, e30, hp, t17]
    · have hp' := inR_iff.1 hp
      obtain ⟨q, hq'⟩ : ∃ q : Nat, m.p = q := ⟨m.p.toNat, by omega⟩
      rw [hq'] at hp hp' ⊢
      have hg2 := t47 hv H (p := (q : Int)) (by omega) (by omega)
      have rl2 := resL_is (gL C q)
      obtain ⟨w2, hw2⟩ : ∃ w, w = resL (gL C q) := ⟨_, rfl⟩
      rw [← hw2] at hg2 rl2
      have hat2 := gL_at (C := C) (p := (q : Int)) hjl
      have hlt2 : (j : Int) < ((gL C q).length : Int) := by rw [gL_len]; omega
      have hless : gG C q j < c := by
        have := hbe q (by omega)
        simp only [decide_eq_false_iff_not] at this; omega
      simp (disch := first | assumption | omega | (simp only [az]; done)) only [ru, eq_self, if_true, if_false, BEq.rfl, binI, AO.row?, splice, fillL, mmAll, loadV, storeV, zeros, Am.rowAt, Am.part, addOff, Nat.reduceAdd, Nat.reduceMul, Nat.reduceLeDiff, Nat.reduceSub, Nat.reduceLT, Int.reduceEq, Int.reduceLT, Int.reduceLE, Int.reduceGT, Int.reduceGE, Int.reduceAdd, Int.reduceSub, Int.reduceMul, Int.reduceNeg, Int.reduceToNat, reduceCtorEq, reduceIte, lenV_sl hv, view_sl hv, scalar_sl hv, cells_sl hv, pure_sl hv, t45r hv, hr, Bool.not_true, Bool.not_false, gUn, t49 hv hl, hn, t46, hc, h29, f1, f2, n30, n33, e30, hp, hg2, lenV_sl rl2, elem_in rl2, view_sl rl2, scalar_sl rl2, cells_sl rl2, pure_sl rl2, Int.toNat_natCast, hat2, hless, decide_true, t17]
end
end Go.Proofs.Ytaeijjfgfenfhaa.S

