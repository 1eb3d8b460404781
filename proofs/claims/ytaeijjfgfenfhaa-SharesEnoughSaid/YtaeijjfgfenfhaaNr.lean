/-
How near it is.
-/
import Derived.Test.YtaeijjfgfenfhaaNq
namespace Go.Proofs.Ytaeijjfgfenfhaa.S
open Go Go.Am Go.Proofs.Ytaeijjfgfenfhaa.T
set_option maxRecDepth 100000
set_option linter.unusedSimpArgs false
set_option linter.unusedVariables false

theorem ofN_at {B : List Nat} {m : Nat} (hm : m < B.length) : (ofN B).getD m 0 = ((B.getD m default : Nat) : Int) := by
  unfold ofN
  rw [List.getD_eq_getElem?_getD, List.getElem?_map, List.getD_eq_getElem?_getD, List.getElem?_eq_getElem hm]; rfl
theorem map_at {B : List Nat} {f : Nat → Int} {m : Nat} (hm : m < B.length) : (B.map f).getD m 0 = f (B.getD m default) := by
  rw [List.getD_eq_getElem?_getD, List.getElem?_map, List.getElem?_eq_getElem hm, List.getD_eq_getElem?_getD, List.getElem?_eq_getElem hm]; rfl
/-- the nodes ahead of one of them -/
theorem bl_take {C : List Nd} {i : Int} : ∀ (n m : Nat), m < (bl C i n).length → (bl C i n).take m = bl C i ((bl C i n).getD m default)
  | 0, m, h => by simp [bl_zero] at h
  | n + 1, m, h => by
    by_cases c : (ndA C n).up = i
    · rw [bl_yes c] at h ⊢
      rw [List.length_append, List.length_singleton] at h
      by_cases e : m = (bl C i n).length
      · subst e
        rw [List.take_append_of_le_length (Nat.le_refl _), List.take_length, List.getD_eq_getElem?_getD, List.getElem?_append_right (Nat.le_refl _)]
        simp
      · have hm : m < (bl C i n).length := by omega
        rw [List.take_append_of_le_length (by omega), bl_take n m hm, List.getD_eq_getElem?_getD, List.getD_eq_getElem?_getD, List.getElem?_append_left hm]
    · rw [bl_no c] at h ⊢
      exact bl_take n m h
/-- all with a weight have got one more -/
def moA (C : List Nd) (r : Int) (l : List Nat) (m : Nat) : Bool := (List.range m).all fun k => !(decide (0 < (ndA C (l.getD k default)).w) && decide (exV C r (l.take k) (l.getD k default) = 0))
theorem mo_pos {C : List Nd} {r : Int} {l : List Nat} : ∀ m, m ≤ l.length → 0 < exR C r (l.take m) → moA C r l m = true
  | 0, _, _ => rfl
  | m + 1, hm, h => by
    rw [take_snoc (d := default) (by omega), exR_snoc] at h
    have h0 : 0 < exR C r (l.take m) := by
      by_cases c : 0 < exR C r (l.take m)
      · exact c
      · rw [if_neg (fun h => c h.2)] at h; exact h
    refine range_all_succ (mo_pos m (by omega) h0) ?_
    by_cases c : 0 < (ndA C (l.getD m default)).w
    · unfold exV
      rw [if_pos ⟨c, h0⟩]; simp
    · simp only [decide_eq_false c, Bool.false_and, Bool.not_false]
section
variable {C : List Nd} {v : AV} (hv : IsSl 3 Nd.e C v)
include hv
set_option maxHeartbeats 2000000 in
theorem l8 (i p : Int) (st : Bool) : Iso E 8 [cuV v, I i, I p] st = some (Bo true) := by
  refine Iso_of (es _ _ _ _) e8 ?_
  simp only [f8]
  cases hr : rdy C
  · simp (disch := first | assumption | omega | (simp only [az]; done)) only [ru, eq_self, if_true, if_false, BEq.rfl, binI, AO.row?, splice, fillL, mmAll, loadV, storeV, zeros, Am.rowAt, Am.part, addOff, Nat.reduceAdd, Nat.reduceMul, Nat.reduceLeDiff, Nat.reduceSub, Nat.reduceLT, Int.reduceEq, Int.reduceLT, Int.reduceLE, Int.reduceGT, Int.reduceGE, Int.reduceAdd, Int.reduceSub, Int.reduceMul, Int.reduceNeg, Int.reduceToNat, reduceCtorEq, reduceIte, lenV_sl hv, view_sl hv, scalar_sl hv, cells_sl hv, pure_sl hv, t45r hv, hr, Bool.not_false, gUn, t17]
  obtain ⟨H, hl⟩ := rdy_ok hr
  cases hi : inR i 0 (C.length - 1)
  · simp (disch := first | assumption | omega | (simp only [az]; done)) only [ru, eq_self, if_true, if_false, BEq.rfl, binI, AO.row?, splice, fillL, mmAll, loadV, storeV, zeros, Am.rowAt, Am.part, addOff, Nat.reduceAdd, Nat.reduceMul, Nat.reduceLeDiff, Nat.reduceSub, Nat.reduceLT, Int.reduceEq, Int.reduceLT, Int.reduceLE, Int.reduceGT, Int.reduceGE, Int.reduceAdd, Int.reduceSub, Int.reduceMul, Int.reduceNeg, Int.reduceToNat, reduceCtorEq, reduceIte, lenV_sl hv, view_sl hv, scalar_sl hv, cells_sl hv, pure_sl hv, t45r hv, hr, Bool.not_true, Bool.not_false, gUn, t49 hv hl, hi, t17]
  cases hp : inR p 0 400
  · simp (disch := first | assumption | omega | (simp only [az]; done)) only [ru, eq_self, if_true, if_false, BEq.rfl, binI, AO.row?, splice, fillL, mmAll, loadV, storeV, zeros, Am.rowAt, Am.part, addOff, Nat.reduceAdd, Nat.reduceMul, Nat.reduceLeDiff, Nat.reduceSub, Nat.reduceLT, Int.reduceEq, Int.reduceLT, Int.reduceLE, Int.reduceGT, Int.reduceGE, Int.reduceAdd, Int.reduceSub, Int.reduceMul, Int.reduceNeg, Int.reduceToNat, reduceCtorEq, reduceIte, lenV_sl hv, view_sl hv, scalar_sl hv, cells_sl hv, pure_sl hv, t45r hv, hr, Bool.not_true, Bool.not_false, gUn, t49 hv hl, hi, t46, hp, t17]
  have hi' := inR_iff.1 hi
  have hp' := inR_iff.1 hp
  have n8 := H.n8
  have n1 := H.n1
  have h48 := fun st => t48 hv H (i := i) hi'.1 st
  have r4 := resL_is (ofN (bl C i C.length))
  obtain ⟨w4, hw4⟩ : ∃ w, w = resL (ofN (bl C i C.length)) := ⟨_, rfl⟩
  rw [← hw4] at r4 h48
  have h25 := x25r hv H hi hp
  have r3 := resL_is (sL C i p)
  obtain ⟨w3, hw3⟩ : ∃ w, w = resL (sL C i p) := ⟨_, rfl⟩
  rw [← hw3] at r3 h25
  have h50 := fun st => t50 hv H (i := i) hi'.1 st
  obtain ⟨B, hB⟩ : ∃ B, B = bl C i C.length := ⟨_, rfl⟩
  have hBm : ∀ j ∈ B, j < C.length ∧ (ndA C j).up = i := fun j hj => by
    have := mem_bl.1 (by rw [← hB]; exact hj); exact this
  have hsL : sL C i p = B.map (spv C i p) := by rw [hB]; rfl
  rw [hsL] at r3
  rw [← hB] at r4
  have hBl : B.length ≤ C.length := by rw [hB]; unfold bl; exact Nat.le_trans (List.length_filter_le _ _) (by simp)
  have l3 : ((B.map (spv C i p)).length : Int) = B.length := by simp
  have l4 : ((ofN B).length : Int) = B.length := by rw [ofN_len]
  have nbb : ((B.length : Int) != B.length) = false := by simp
  have n00 : ((0 : Int) != 0) = false := rfl
  have e00 : ((0 : Int) == 0) = true := rfl
  simp (disch := first | assumption | omega | (simp only [az]; done)) only [ru, eq_self, if_true, if_false, BEq.rfl, binI, AO.row?, splice, fillL, mmAll, loadV, storeV, zeros, Am.rowAt, Am.part, addOff, Nat.reduceAdd, Nat.reduceMul, Nat.reduceLeDiff, Nat.reduceSub, Nat.reduceLT, Int.reduceEq, Int.reduceLT, Int.reduceLE, Int.reduceGT, Int.reduceGE, Int.reduceAdd, Int.reduceSub, Int.reduceMul, Int.reduceNeg, Int.reduceToNat, reduceCtorEq, reduceIte, lenV_sl hv, view_sl hv, scalar_sl hv, cells_sl hv, pure_sl hv, t45r hv, hr, Bool.not_true, Bool.not_false, gUn, t49 hv hl, hi, t46, hp, h48]
  refine G_loop_ind (fun y ts hk mk => ∃ m : Nat, m ≤ B.length ∧ y = B.length - m ∧ (∀ k, k < m → (ndA C (B.getD k default)).f = 0) ∧ hk = [.cells [v] false] ∧ ts.length = 158 ∧ ts.getD 1 .undef = I i ∧ ts.getD 2 .undef = I p ∧ ts.getD 3 .undef = .ptr 0 0 ∧ ts.getD 7 .undef = w4 ∧ ts.getD 8 .undef = I m ∧ mk = []) ?_ B.length _ _ _ ⟨0, Nat.zero_le _, rfl, fun k hk => by omega, rfl, rfl, rfl, rfl, rfl, rfl, rfl, rfl⟩
  rintro y ts hk mk ih ⟨m, hm, rfl, hz, rfl, hl', q1, q2, q3, q7, q8, rfl⟩
  rw [lit_all hl']
  simp only [lit0, litS, Nat.reduceAdd, q1, q2, q3, q7, q8]
  by_cases hlt : (m : Int) < B.length
  · have hm' : m < B.length := by omega
    obtain ⟨k, hk⟩ : ∃ k, k = B.getD m default := ⟨_, rfl⟩
    have hkn := hBm k (by rw [hk]; exact getD_mem hm')
    have hkz : (ofN B).getD m 0 = (k : Int) := by rw [ofN_at hm', hk]
    have lt4 : (m : Int) < ((ofN B).length : Int) := by rw [ofN_len]; exact hlt
    have lt5 : (k : Int) < C.length := by omega
    have hf := H.f k hkn.1
    by_cases c : (ndA C k).f > 0
    · simp (disch := first | assumption | omega | (simp only [az]; done)) only [ru, eq_self, if_true, if_false, BEq.rfl, binI, AO.row?, splice, fillL, mmAll, loadV, storeV, zeros, Am.rowAt, Am.part, addOff, Nat.reduceAdd, Nat.reduceMul, Nat.reduceLeDiff, Nat.reduceSub, Nat.reduceLT, Int.reduceEq, Int.reduceLT, Int.reduceLE, Int.reduceGT, Int.reduceGE, Int.reduceAdd, Int.reduceSub, Int.reduceMul, Int.reduceNeg, Int.reduceToNat, reduceCtorEq, reduceIte, hlt, lt4, lt5, lenV_sl hv, view_sl hv, scalar_sl hv, cells_sl hv, pure_sl hv, elem_nd hv, lenV_sl r4, elem_in r4, view_sl r4, scalar_sl r4, cells_sl r4, pure_sl r4, Int.toNat_natCast, l4, hkz, Int.toNat_natCast, c, t17]
    · simp (disch := first | assumption | omega | (simp only [az]; done)) only [ru, eq_self, if_true, if_false, BEq.rfl, binI, AO.row?, splice, fillL, mmAll, loadV, storeV, zeros, Am.rowAt, Am.part, addOff, Nat.reduceAdd, Nat.reduceMul, Nat.reduceLeDiff, Nat.reduceSub, Nat.reduceLT, Int.reduceEq, Int.reduceLT, Int.reduceLE, Int.reduceGT, Int.reduceGE, Int.reduceAdd, Int.reduceSub, Int.reduceMul, Int.reduceNeg, Int.reduceToNat, reduceCtorEq, reduceIte, hlt, lt4, lt5, lenV_sl hv, view_sl hv, scalar_sl hv, cells_sl hv, pure_sl hv, elem_nd hv, lenV_sl r4, elem_in r4, view_sl r4, scalar_sl r4, cells_sl r4, pure_sl r4, Int.toNat_natCast, l4, hkz, Int.toNat_natCast, c]
      refine ih (B.length - (m + 1)) _ _ _ (by omega) ⟨m + 1, by omega, rfl, fun k' hk' => ?_, rfl, rfl, rfl, rfl, rfl, rfl, rfl, rfl⟩
      by_cases e : k' = m
      · subst e; rw [← hk]; omega
      · exact hz k' (by omega)
  obtain rfl : m = B.length := by omega
  clear ih
  -- no Fixed
  have hf0 : ∀ j ∈ B, (ndA C j).f = 0 := fun j hj => by
    obtain ⟨k, hk, rfl⟩ := mem_getD (d := default) hj
    exact hz k hk
  have hfx : ∀ l : List Nat, (∀ j ∈ l, (ndA C j).f = 0) → fxR C p l = p := by
    intro l
    refine snocRec (fun l => (∀ j ∈ l, (ndA C j).f = 0) → fxR C p l = p) l (fun _ => rfl) ?_
    intro l c ih h
    rw [fxR_snoc, ih fun j hj => h j (by simp [hj]), h c (by simp)]
    unfold mn; split <;> omega
  have hR : rsR C i p = p := by unfold rsR; rw [← hB]; exact hfx B hf0
  have hfv : ∀ j ∈ B, fvV C i p j = 0 := fun j hj => by
    unfold fvV
    rw [hfx _ fun k hk => hf0 k (by rw [hB]; have h1 := mem_bl.1 hk; have h2 := (hBm j hj).1; exact mem_bl.2 ⟨by omega, h1.2⟩), hf0 j hj]
    unfold mn; split <;> omega
  by_cases hS : rsS C i = 0
  · have bS : (rsS C i == 0) = true := by simp [hS]
    have hk : spk C i p = p := by unfold spk; rw [if_pos hS, hR]
    have epp : (p == p) = true := by simp
    have hsv : ∀ j ∈ B, spv C i p j = 0 := fun j hj => by unfold spv; rw [if_pos hS, hfv j hj]
    rw [hk] at h25
    simp (disch := first | assumption | omega | (simp only [az]; done)) only [ru, eq_self, if_true, if_false, BEq.rfl, binI, AO.row?, splice, fillL, mmAll, loadV, storeV, zeros, Am.rowAt, Am.part, addOff, Nat.reduceAdd, Nat.reduceMul, Nat.reduceLeDiff, Nat.reduceSub, Nat.reduceLT, Int.reduceEq, Int.reduceLT, Int.reduceLE, Int.reduceGT, Int.reduceGE, Int.reduceAdd, Int.reduceSub, Int.reduceMul, Int.reduceNeg, Int.reduceToNat, reduceCtorEq, reduceIte, hlt, lenV_sl hv, view_sl hv, scalar_sl hv, cells_sl hv, pure_sl hv, lenV_sl r4, elem_in r4, view_sl r4, scalar_sl r4, cells_sl r4, pure_sl r4, Int.toNat_natCast, l4, h25, n00, gUn, lenV_sl r3, elem_in r3, view_sl r3, scalar_sl r3, cells_sl r3, pure_sl r3, Int.toNat_natCast, l3, nbb, h50, bS]
    refine G_loop_ind (fun y ts hk mk => ∃ m : Nat, m ≤ B.length ∧ y = B.length - m ∧ ts.length = 158 ∧ ts.getD 2 .undef = I p ∧ ts.getD 9 .undef = w3 ∧ ts.getD 10 .undef = I p ∧ ts.getD 13 .undef = I m ∧ mk = []) ?_ B.length _ _ _ ⟨0, Nat.zero_le _, rfl, rfl, rfl, rfl, rfl, rfl, rfl⟩
    clear hl' q1 q2 q3 q7 q8 ts
    rintro y ts hk mk ih ⟨m, hm, rfl, hl', q2, q9, q10, q13, rfl⟩
    rw [lit_all hl']
    simp only [lit0, litS, Nat.reduceAdd, q2, q9, q10, q13]
    by_cases hlt2 : (m : Int) < B.length
    · have hm' : m < B.length := by omega
      have hz : (B.map (spv C i p)).getD m 0 = 0 := by rw [map_at hm', hsv _ (getD_mem hm')]
      have lt5 : (m : Int) < ((B.map (spv C i p)).length : Int) := by rw [List.length_map]; exact hlt2
      simp (disch := first | assumption | omega | (simp only [az]; done)) only [ru, eq_self, if_true, if_false, BEq.rfl, binI, AO.row?, splice, fillL, mmAll, loadV, storeV, zeros, Am.rowAt, Am.part, addOff, Nat.reduceAdd, Nat.reduceMul, Nat.reduceLeDiff, Nat.reduceSub, Nat.reduceLT, Int.reduceEq, Int.reduceLT, Int.reduceLE, Int.reduceGT, Int.reduceGE, Int.reduceAdd, Int.reduceSub, Int.reduceMul, Int.reduceNeg, Int.reduceToNat, reduceCtorEq, reduceIte, hlt2, lt5, lenV_sl r3, elem_in r3, view_sl r3, scalar_sl r3, cells_sl r3, pure_sl r3, Int.toNat_natCast, l3, hz, n00]
      exact ih (B.length - (m + 1)) _ _ _ (by omega) ⟨m + 1, by omega, rfl, rfl, rfl, rfl, rfl, rfl, rfl⟩
    · simp (disch := first | assumption | omega | (simp only [az]; done)) only [ru, eq_self, if_true, if_false, BEq.rfl, binI, AO.row?, splice, fillL, mmAll, loadV, storeV, zeros, Am.rowAt, Am.part, addOff, Nat.reduceAdd, Nat.reduceMul, Nat.reduceLeDiff, Nat.reduceSub, Nat.reduceLT, Int.reduceEq, Int.reduceLT, Int.reduceLE, Int.reduceGT, Int.reduceGE, Int.reduceAdd, Int.reduceSub, Int.reduceMul, Int.reduceNeg, Int.reduceToNat, reduceCtorEq, reduceIte, hlt2, lenV_sl r3, elem_in r3, view_sl r3, scalar_sl r3, cells_sl r3, pure_sl r3, Int.toNat_natCast, l3, epp, gUn, t17]
  · have bS : (rsS C i == 0) = false := by simp [hS]
    have hk : spk C i p = 0 := by unfold spk; rw [if_neg hS]
    rw [hk] at h25
    have hS0 := (rsS_bd H (i := i)).1
    have hS1 : 0 < rsS C i := by omega
    have hsv : ∀ m, m < B.length → spv C i p (B.getD m default) = pt C p (rsS C i) (B.getD m default) + exV C (rsL C i p) (B.take m) (B.getD m default) := fun m hm => by
      unfold spv
      rw [if_neg hS, hfv _ (getD_mem hm), hR, hB, bl_take _ _ (by rw [← hB]; exact hm)]; omega
    simp (disch := first | assumption | omega | (simp only [az]; done)) only [ru, eq_self, if_true, if_false, BEq.rfl, binI, AO.row?, splice, fillL, mmAll, loadV, storeV, zeros, Am.rowAt, Am.part, addOff, Nat.reduceAdd, Nat.reduceMul, Nat.reduceLeDiff, Nat.reduceSub, Nat.reduceLT, Int.reduceEq, Int.reduceLT, Int.reduceLE, Int.reduceGT, Int.reduceGE, Int.reduceAdd, Int.reduceSub, Int.reduceMul, Int.reduceNeg, Int.reduceToNat, reduceCtorEq, reduceIte, hlt, lenV_sl hv, view_sl hv, scalar_sl hv, cells_sl hv, pure_sl hv, lenV_sl r4, elem_in r4, view_sl r4, scalar_sl r4, cells_sl r4, pure_sl r4, Int.toNat_natCast, l4, h25, n00, gUn, lenV_sl r3, elem_in r3, view_sl r3, scalar_sl r3, cells_sl r3, pure_sl r3, Int.toNat_natCast, l3, nbb, h50, bS]
    refine G_loop_ind (fun y ts hk mk => ∃ m : Nat, m ≤ B.length ∧ y = B.length - m ∧ hk = [.cells [v] false] ∧ ts.length = 158 ∧ ts.getD 2 .undef = I p ∧ ts.getD 3 .undef = .ptr 0 0 ∧ ts.getD 7 .undef = w4 ∧ ts.getD 9 .undef = w3 ∧ ts.getD 10 .undef = I 0 ∧ ts.getD 12 .undef = I (rsS C i) ∧ ts.getD 14 .undef = Bo (moA C (rsL C i p) B m) ∧ ts.getD 15 .undef = I m ∧ mk = []) ?_ B.length _ _ _ ⟨0, Nat.zero_le _, rfl, rfl, rfl, rfl, rfl, rfl, rfl, rfl, rfl, rfl, rfl, rfl⟩
    clear hl' q1 q2 q3 q7 q8 ts
    rintro y ts hk mk ih ⟨m, hm, rfl, rfl, hl', q2, q3, q7, q9, q10, q12, q14, q15, rfl⟩
    rw [lit_all hl']
    simp only [lit0, litS, Nat.reduceAdd, q2, q3, q7, q9, q10, q12, q14, q15]
    by_cases hlt2 : (m : Int) < B.length
    · have hm' : m < B.length := by omega
      obtain ⟨k, hk⟩ : ∃ k, k = B.getD m default := ⟨_, rfl⟩
      have hkn := hBm k (by rw [hk]; exact getD_mem hm')
      have hkz : (ofN B).getD m 0 = (k : Int) := by rw [ofN_at hm', hk]
      have hsz : (B.map (spv C i p)).getD m 0 = pt C p (rsS C i) k + exV C (rsL C i p) (B.take m) k := by rw [map_at hm', hsv m hm', hk]
      have lt4 : (m : Int) < ((ofN B).length : Int) := by rw [ofN_len]; exact hlt2
      have lt5 : (m : Int) < ((B.map (spv C i p)).length : Int) := by rw [List.length_map]; exact hlt2
      have lt6 : (k : Int) < C.length := by omega
      have hw := H.w k hkn.1
      obtain ⟨b1, b2, b3⟩ := pt_bd H (R := p) hp'.1 hS1 hkn.1
      have m9 : p * (ndA C k).w ≤ 400 * 9 := Int.mul_le_mul (by omega) (by omega) (by omega) (by omega)
      have m0 := Int.mul_nonneg hp'.1 hw.1
      have p9 : 1 * pt C p (rsS C i) k ≤ rsS C i * pt C p (rsS C i) k := Int.mul_le_mul_of_nonneg_right (by omega) b1
      have em := wr64 (n := p * (ndA C k).w) (by omega) (by omega)
      have ep : (p * (ndA C k).w).tdiv (rsS C i) = pt C p (rsS C i) k := rfl
      have ewp := wr64 (n := pt C p (rsS C i) k) (by omega) (by omega)
      have ew1 := wr64 (n := pt C p (rsS C i) k + 1) (by omega) (by omega)
      have nS : ¬ rsS C i = 0 := hS
      obtain ⟨P, hP⟩ : ∃ P, P = pt C p (rsS C i) k := ⟨_, rfl⟩
      rw [← hP] at ep ewp ew1 hsz
      have mo1 : moA C (rsL C i p) B (m + 1) = (moA C (rsL C i p) B m && !(decide (0 < (ndA C k).w) && decide (exV C (rsL C i p) (B.take m) k = 0))) := by
        unfold moA; rw [List.range_succ, List.all_append, hk]; simp
      rcases exV_01 (C := C) (r := rsL C i p) (l := B.take m) (j := k) with hx | hx
      · rw [hx, Int.add_zero] at hsz
        rw [hx] at mo1
        have c1 : (P != P) = false := by simp
        have c2 : ¬ P > P := by omega
        have c3 : (P == P) = true := by simp
        by_cases cw : (ndA C k).w > 0
        · have cw' : 0 < (ndA C k).w := cw
          have mo2 : moA C (rsL C i p) B (m + 1) = false := by rw [mo1]; simp [cw']
          simp (disch := first | assumption | omega | (simp only [az]; done)) only [ru, eq_self, if_true, if_false, BEq.rfl, binI, AO.row?, splice, fillL, mmAll, loadV, storeV, zeros, Am.rowAt, Am.part, addOff, Nat.reduceAdd, Nat.reduceMul, Nat.reduceLeDiff, Nat.reduceSub, Nat.reduceLT, Int.reduceEq, Int.reduceLT, Int.reduceLE, Int.reduceGT, Int.reduceGE, Int.reduceAdd, Int.reduceSub, Int.reduceMul, Int.reduceNeg, Int.reduceToNat, reduceCtorEq, reduceIte, hlt2, lt4, lt5, lt6, lenV_sl hv, view_sl hv, scalar_sl hv, cells_sl hv, pure_sl hv, elem_nd hv, lenV_sl r3, elem_in r3, view_sl r3, scalar_sl r3, cells_sl r3, pure_sl r3, Int.toNat_natCast, lenV_sl r4, elem_in r4, view_sl r4, scalar_sl r4, cells_sl r4, pure_sl r4, Int.toNat_natCast, l3, hkz, hsz, Int.toNat_natCast, em, nS, ep, ewp, ew1, c1, c2, c3, gUn, decide_false, cw]
          exact ih (B.length - (m + 1)) _ _ _ (by omega) ⟨m + 1, by omega, rfl, rfl, rfl, rfl, rfl, rfl, rfl, rfl, rfl, by rw [mo2]; rfl, rfl, rfl⟩
        · have mo2 : moA C (rsL C i p) B (m + 1) = moA C (rsL C i p) B m := by rw [mo1, decide_eq_false (by omega : ¬ 0 < (ndA C k).w)]; simp
          simp (disch := first | assumption | omega | (simp only [az]; done)) only [ru, eq_self, if_true, if_false, BEq.rfl, binI, AO.row?, splice, fillL, mmAll, loadV, storeV, zeros, Am.rowAt, Am.part, addOff, Nat.reduceAdd, Nat.reduceMul, Nat.reduceLeDiff, Nat.reduceSub, Nat.reduceLT, Int.reduceEq, Int.reduceLT, Int.reduceLE, Int.reduceGT, Int.reduceGE, Int.reduceAdd, Int.reduceSub, Int.reduceMul, Int.reduceNeg, Int.reduceToNat, reduceCtorEq, reduceIte, hlt2, lt4, lt5, lt6, lenV_sl hv, view_sl hv, scalar_sl hv, cells_sl hv, pure_sl hv, elem_nd hv, lenV_sl r3, elem_in r3, view_sl r3, scalar_sl r3, cells_sl r3, pure_sl r3, Int.toNat_natCast, lenV_sl r4, elem_in r4, view_sl r4, scalar_sl r4, cells_sl r4, pure_sl r4, Int.toNat_natCast, l3, hkz, hsz, Int.toNat_natCast, em, nS, ep, ewp, ew1, c1, c2, c3, gUn, decide_false, cw]
          exact ih (B.length - (m + 1)) _ _ _ (by omega) ⟨m + 1, by omega, rfl, rfl, rfl, rfl, rfl, rfl, rfl, rfl, rfl, by rw [mo2]; rfl, rfl, rfl⟩
      · rw [hx] at hsz
        rw [hx] at mo1
        have hx' := hx
        unfold exV at hx'
        have hcond : 0 < (ndA C k).w ∧ 0 < exR C (rsL C i p) (B.take m) := by
          split at hx'
          · assumption
          · omega
        have mot := mo_pos (C := C) m (by omega) hcond.2
        have mo2 : moA C (rsL C i p) B (m + 1) = true := by rw [mo1, mot]; simp
        have c1 : (P + 1 != P) = true := by simp; omega
        have c4 : (P + 1 != P + 1) = false := by simp
        have c2 : P + 1 > P := by omega
        have c3 : (P + 1 == P) = false := by simp; omega
        have cw : (ndA C k).w > 0 := hcond.1
        have cw0 : ((ndA C k).w == 0) = false := by simp; omega
        simp (disch := first | assumption | omega | (simp only [az]; done)) only [ru, eq_self, if_true, if_false, BEq.rfl, binI, AO.row?, splice, fillL, mmAll, loadV, storeV, zeros, Am.rowAt, Am.part, addOff, Nat.reduceAdd, Nat.reduceMul, Nat.reduceLeDiff, Nat.reduceSub, Nat.reduceLT, Int.reduceEq, Int.reduceLT, Int.reduceLE, Int.reduceGT, Int.reduceGE, Int.reduceAdd, Int.reduceSub, Int.reduceMul, Int.reduceNeg, Int.reduceToNat, reduceCtorEq, reduceIte, hlt2, lt4, lt5, lt6, lenV_sl hv, view_sl hv, scalar_sl hv, cells_sl hv, pure_sl hv, elem_nd hv, lenV_sl r3, elem_in r3, view_sl r3, scalar_sl r3, cells_sl r3, pure_sl r3, Int.toNat_natCast, lenV_sl r4, elem_in r4, view_sl r4, scalar_sl r4, cells_sl r4, pure_sl r4, Int.toNat_natCast, l3, hkz, hsz, Int.toNat_natCast, em, nS, ep, ewp, ew1, c1, c2, c3, c4, gUn, decide_true, mot, Bool.not_true, cw, cw0]
        exact ih (B.length - (m + 1)) _ _ _ (by omega) ⟨m + 1, by omega, rfl, rfl, rfl, rfl, rfl, rfl, rfl, rfl, rfl, by rw [mo2]; rfl, rfl, rfl⟩
    · simp (disch := first | assumption | omega | (simp only [az]; done)) only [ru, eq_self, if_true, if_false, BEq.rfl, binI, AO.row?, splice, fillL, mmAll, loadV, storeV, zeros, Am.rowAt, Am.part, addOff, Nat.reduceAdd, Nat.reduceMul, Nat.reduceLeDiff, Nat.reduceSub, Nat.reduceLT, Int.reduceEq, Int.reduceLT, Int.reduceLE, Int.reduceGT, Int.reduceGE, Int.reduceAdd, Int.reduceSub, Int.reduceMul, Int.reduceNeg, Int.reduceToNat, reduceCtorEq, reduceIte, hlt2, lenV_sl r3, elem_in r3, view_sl r3, scalar_sl r3, cells_sl r3, pure_sl r3, Int.toNat_natCast, l3, e00, gUn, t17]
end
end Go.Proofs.Ytaeijjfgfenfhaa.S

