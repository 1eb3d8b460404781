/-
What the specification says of a whole division.
-/
import Derived.Test.YtaeijjfgfenfhaaNu
namespace Go.Proofs.Ytaeijjfgfenfhaa.S
open Go Go.Am Go.Proofs.Ytaeijjfgfenfhaa.T
set_option maxRecDepth 100000
set_option linter.unusedSimpArgs false
set_option linter.unusedVariables false

section
variable {C : List Nd} {v : AV} (hv : IsSl 3 Nd.e C v)
include hv
set_option maxHeartbeats 1000000 in
theorem t68 (H : CuOk C) {p : Int} (hp : 0 ≤ p) (hp2 : p ≤ 1000) : ∀ (j : Nat), j < C.length → ∀ st, Iso E 68 [cuV v, I j, I p] st = some (I (gG C p j)) := by
  intro j
  induction j using Nat.strongRecOn with
  | _ j ihj =>
    intro hj st
    have n8 := H.n8
    refine Iso_of (es _ _ _ _) e68 ?_
    simp only [f68]
    by_cases e0 : j = 0
    · subst e0
      rw [gG_zero]
      simp (disch := first | assumption | omega | (simp only [az]; done)) only [ru, eq_self, if_true, if_false, BEq.rfl, binI, AO.row?, splice, fillL, mmAll, loadV, storeV, zeros, Am.rowAt, Am.part, addOff, Nat.reduceAdd, Nat.reduceMul, Nat.reduceLeDiff, Nat.reduceSub, Nat.reduceLT, Int.reduceEq, Int.reduceLT, Int.reduceLE, Int.reduceGT, Int.reduceGE, Int.reduceAdd, Int.reduceSub, Int.reduceMul, Int.reduceNeg, Int.reduceToNat, reduceCtorEq, reduceIte, lenV_sl hv, view_sl hv, scalar_sl hv, cells_sl hv, pure_sl hv, Int.natCast_zero, BEq.rfl]
    have hu := H.up j (by omega) hj
    obtain ⟨u, hu'⟩ : ∃ u : Nat, (ndA C j).up = u := ⟨(ndA C j).up.toNat, by omega⟩
    have eb : ((j : Int) == 0) = false := by simp; omega
    have eg := gG_eq H (p := p) (by omega) hj
    rw [hu'] at eg hu
    rw [Int.toNat_natCast] at eg
    have hr := ihj u (by omega) (by omega)
    have gb := gG_bd H hp u (by omega)
    have h72 := fun st => t72 hv H (i := u) (by omega) gb.1 (by omega) st
    have h48 := fun st => t48 hv H (i := (u : Int)) (by omega) st
    have r8 := resL_is (ofN (bl C (u : Int) C.length))
    have r7 := resL_is (sL C u (gG C p u))
    have eG : sL C u (gG C p u) = (bl C (u : Int) C.length).map (spv C u (gG C p u)) := rfl
    obtain ⟨q, hq⟩ : ∃ q, q = gG C p u := ⟨_, rfl⟩
    obtain ⟨w8, hw8⟩ : ∃ w, w = resL (ofN (bl C (u : Int) C.length)) := ⟨_, rfl⟩
    rw [← hq] at h72 eg r7 eG hr
    obtain ⟨w7, hw7⟩ : ∃ w, w = resL (sL C u q) := ⟨_, rfl⟩
    rw [← hw8] at h48 r8
    rw [← hw7] at h72 r7
    obtain ⟨B, hB⟩ : ∃ B, B = bl C (u : Int) C.length := ⟨_, rfl⟩
    rw [← hB] at r8 eG
    have hBl : B.length ≤ C.length := by rw [hB]; unfold bl; exact Nat.le_trans (List.length_filter_le _ _) (by simp)
    obtain ⟨Sv, hSv⟩ : ∃ Sv, Sv = sL C u q := ⟨_, rfl⟩
    rw [← hSv] at r7 eG
    have sl : Sv.length = B.length := by rw [eG, List.length_map]
    have sat : ∀ m, m < B.length → Sv.getD m 0 = spv C u q (B.getD m default) := fun m hm => by rw [eG]; exact map_at hm
    have hjB : j ∈ B := by rw [hB]; exact mem_bl.2 ⟨hj, hu'⟩
    have hji : (j : Int) < C.length := by omega
    simp (disch := first | assumption | omega | (simp only [az]; done)) only [ru, eq_self, if_true, if_false, BEq.rfl, binI, AO.row?, splice, fillL, mmAll, loadV, storeV, zeros, Am.rowAt, Am.part, addOff, Nat.reduceAdd, Nat.reduceMul, Nat.reduceLeDiff, Nat.reduceSub, Nat.reduceLT, Int.reduceEq, Int.reduceLT, Int.reduceLE, Int.reduceGT, Int.reduceGE, Int.reduceAdd, Int.reduceSub, Int.reduceMul, Int.reduceNeg, Int.reduceToNat, reduceCtorEq, reduceIte, lenV_sl hv, view_sl hv, scalar_sl hv, cells_sl hv, pure_sl hv, elem_nd hv, Int.toNat_natCast, eb, hji, hu', hr, h72, h48]
    refine G_loop_ind (fun y ts hk mk => ∃ m : Nat, m ≤ B.length ∧ y = B.length - m ∧ hk = [.cells [v] false] ∧ ts.length = 52 ∧ ts.getD 1 .undef = I j ∧ ts.getD 3 .undef = .ptr 0 0 ∧ ts.getD 8 .undef = w7 ∧ ts.getD 10 .undef = w8 ∧ ts.getD 11 .undef = I (if j ∈ B.take m then spv C u q j else 0) ∧ ts.getD 12 .undef = I m ∧ mk = []) ?_ B.length _ _ _ ⟨0, Nat.zero_le _, rfl, rfl, rfl, rfl, rfl, rfl, rfl, rfl, rfl, rfl⟩
    rintro y ts hk mk ih ⟨m, hm, rfl, rfl, hl', q1, q3, q8, q10, q11, q12, rfl⟩
    rw [lit_all hl']
    simp only [lit0, litS, Nat.reduceAdd, q1, q3, q8, q10, q11, q12]
    by_cases hlt : (m : Int) < B.length
    · have hm' : m < B.length := by omega
      obtain ⟨k, hk⟩ : ∃ k, k = B.getD m default := ⟨_, rfl⟩
      have hkz : (ofN B).getD m 0 = (k : Int) := by rw [ofN_at hm', hk]
      have lt4 : (m : Int) < ((ofN B).length : Int) := by rw [ofN_len]; exact hlt
      have lt5 : (m : Int) < (Sv.length : Int) := by rw [sl]; exact hlt
      have tk := take_snoc (d := default) hm'
      rw [← hk] at tk
      by_cases c : k = j
      · subst c
        have e3 : (if k ∈ B.take (m + 1) then spv C u q k else 0) = spv C u q k := by rw [tk, if_pos (by simp)]
        have s5 := sat m hm'
        rw [← hk] at s5
        simp (disch := first | assumption | omega | (simp only [az]; done)) only [ru, eq_self, if_true, if_false, BEq.rfl, binI, AO.row?, splice, fillL, mmAll, loadV, storeV, zeros, Am.rowAt, Am.part, addOff, Nat.reduceAdd, Nat.reduceMul, Nat.reduceLeDiff, Nat.reduceSub, Nat.reduceLT, Int.reduceEq, Int.reduceLT, Int.reduceLE, Int.reduceGT, Int.reduceGE, Int.reduceAdd, Int.reduceSub, Int.reduceMul, Int.reduceNeg, Int.reduceToNat, reduceCtorEq, reduceIte, hlt, lt4, lt5, lenV_sl r7, elem_in r7, view_sl r7, scalar_sl r7, cells_sl r7, pure_sl r7, Int.toNat_natCast, lenV_sl r8, elem_in r8, view_sl r8, scalar_sl r8, cells_sl r8, pure_sl r8, Int.toNat_natCast, ofN_len, hkz, s5, BEq.rfl]
        exact ih (B.length - (m + 1)) _ _ _ (by omega) ⟨m + 1, by omega, rfl, rfl, rfl, rfl, rfl, rfl, rfl, by rw [e3]; rfl, rfl, rfl⟩
      · have cb : ((k : Int) == (j : Int)) = false := by simp; omega
        have e3 : (if j ∈ B.take (m + 1) then spv C u q j else 0) = if j ∈ B.take m then spv C u q j else 0 := by
          rw [tk]; simp [Ne.symm c]
        simp (disch := first | assumption | omega | (simp only [az]; done)) only [ru, eq_self, if_true, if_false, BEq.rfl, binI, AO.row?, splice, fillL, mmAll, loadV, storeV, zeros, Am.rowAt, Am.part, addOff, Nat.reduceAdd, Nat.reduceMul, Nat.reduceLeDiff, Nat.reduceSub, Nat.reduceLT, Int.reduceEq, Int.reduceLT, Int.reduceLE, Int.reduceGT, Int.reduceGE, Int.reduceAdd, Int.reduceSub, Int.reduceMul, Int.reduceNeg, Int.reduceToNat, reduceCtorEq, reduceIte, hlt, lt4, lt5, lenV_sl r7, elem_in r7, view_sl r7, scalar_sl r7, cells_sl r7, pure_sl r7, Int.toNat_natCast, lenV_sl r8, elem_in r8, view_sl r8, scalar_sl r8, cells_sl r8, pure_sl r8, Int.toNat_natCast, ofN_len, hkz, cb]
        exact ih (B.length - (m + 1)) _ _ _ (by omega) ⟨m + 1, by omega, rfl, rfl, rfl, rfl, rfl, rfl, rfl, by rw [e3]; rfl, rfl, rfl⟩
    · obtain rfl : m = B.length := by omega
      have e3 : (if j ∈ B.take B.length then spv C u q j else 0) = gG C p j := by rw [List.take_length, if_pos hjB, eg]
      simp (disch := first | assumption | omega | (simp only [az]; done)) only [ru, eq_self, if_true, if_false, BEq.rfl, binI, AO.row?, splice, fillL, mmAll, loadV, storeV, zeros, Am.rowAt, Am.part, addOff, Nat.reduceAdd, Nat.reduceMul, Nat.reduceLeDiff, Nat.reduceSub, Nat.reduceLT, Int.reduceEq, Int.reduceLT, Int.reduceLE, Int.reduceGT, Int.reduceGE, Int.reduceAdd, Int.reduceSub, Int.reduceMul, Int.reduceNeg, Int.reduceToNat, reduceCtorEq, reduceIte, hlt, lenV_sl r8, elem_in r8, view_sl r8, scalar_sl r8, cells_sl r8, pure_sl r8, Int.toNat_natCast, ofN_len, e3]
theorem t69 (H : CuOk C) {p : Int} (hp : 0 ≤ p) (hp2 : p ≤ 1000) (st : Bool) : Iso E 69 [cuV v, I p] st = some (resL (kL C p)) := by
  have n8 := H.n8
  refine Iso_of (es _ _ _ _) e69 ?_
  simp only [f69]
  simp (disch := first | assumption | omega | (simp only [az]; done)) only [ru, eq_self, if_true, if_false, BEq.rfl, binI, AO.row?, splice, fillL, mmAll, loadV, storeV, zeros, Am.rowAt, Am.part, addOff, Nat.reduceAdd, Nat.reduceMul, Nat.reduceLeDiff, Nat.reduceSub, Nat.reduceLT, Int.reduceEq, Int.reduceLT, Int.reduceLE, Int.reduceGT, Int.reduceGE, Int.reduceAdd, Int.reduceSub, Int.reduceMul, Int.reduceNeg, Int.reduceToNat, reduceCtorEq, reduceIte, lenV_sl hv, view_sl hv, scalar_sl hv, cells_sl hv, pure_sl hv]
  obtain ⟨pre, hpre⟩ : ∃ pre, pre = [AO.cells [v] false] := ⟨_, rfl⟩
  have hp0 : ∀ m : List AO, (pre ++ m)[0]? = some (.cells [v] false) := fun m => by rw [hpre]; rfl
  have hpl : pre.length = 1 := by rw [hpre]; rfl
  refine G_loop_ind (fun y ts hk mk => ∃ (m : Nat) (J : List AO), m ≤ C.length ∧ y = C.length - m ∧ hk = pre ++ J ∧ OutE intL 1 pre.length (pre ++ J) (ts.getD 5 .undef) ((List.range m).map (kK C p)) ∧ ts.length = 31 ∧ ts.getD 1 .undef = I p ∧ ts.getD 2 .undef = .ptr 0 0 ∧ ts.getD 6 .undef = I m ∧ mk = []) ?_ C.length _ _ _ ⟨0, [], Nat.zero_le _, rfl, by rw [hpre]; rfl, .inl ⟨rfl, rfl⟩, rfl, rfl, rfl, rfl, rfl⟩
  rintro y ts hk mk ih ⟨m, J, hm, rfl, rfl, ho, hl', q1, q2, q6, rfl⟩
  rw [lit_all hl']
  obtain ⟨w, hw⟩ : ∃ w, w = ts.getD 5 .undef := ⟨_, rfl⟩
  rw [← hw] at ho
  have hw' := hw.symm
  simp only [lit0, litS, Nat.reduceAdd, q1, q2, q6, hw']
  by_cases hlt : (m : Int) < C.length
  · have hm' : m < C.length := by omega
    have gb := gG_bd H hp m hm'
    have a68 := t68 hv H hp hp2 m hm'
    have a72 := fun st => t72 hv H (i := m) hm' gb.1 (by omega) st
    have e2 : spk C m (gG C p m) = kK C p m := rfl
    rw [e2] at a72
    obtain ⟨v', J', ha, ho'⟩ := outE_app (pre := pre) (J := J) (eb := 8) (lim := 0) intE intSc (by omega) (by omega) (by omega) ho (Nat.zero_le _) (by simp; omega) (kK C p m)
    rw [← rmap_succ] at ho'
    simp (disch := first | assumption | omega | (simp only [az]; done)) only [ru, eq_self, if_true, if_false, BEq.rfl, binI, AO.row?, splice, fillL, mmAll, loadV, storeV, zeros, Am.rowAt, Am.part, addOff, Nat.reduceAdd, Nat.reduceMul, Nat.reduceLeDiff, Nat.reduceSub, Nat.reduceLT, Int.reduceEq, Int.reduceLT, Int.reduceLE, Int.reduceGT, Int.reduceGE, Int.reduceAdd, Int.reduceSub, Int.reduceMul, Int.reduceNeg, Int.reduceToNat, reduceCtorEq, reduceIte, hlt, lenV_sl hv, view_sl hv, scalar_sl hv, cells_sl hv, pure_sl hv, hp0, a68, a72, exOp_litS, ha]
    exact ih (C.length - (m + 1)) _ _ _ (by omega) ⟨m + 1, J', by omega, rfl, rfl, ho', rfl, rfl, rfl, rfl, rfl⟩
  · obtain rfl : m = C.length := by omega
    simp (disch := first | assumption | omega | (simp only [az]; done)) only [ru, eq_self, if_true, if_false, BEq.rfl, binI, AO.row?, splice, fillL, mmAll, loadV, storeV, zeros, Am.rowAt, Am.part, addOff, Nat.reduceAdd, Nat.reduceMul, Nat.reduceLeDiff, Nat.reduceSub, Nat.reduceLT, Int.reduceEq, Int.reduceLT, Int.reduceLE, Int.reduceGT, Int.reduceGE, Int.reduceAdd, Int.reduceSub, Int.reduceMul, Int.reduceNeg, Int.reduceToNat, reduceCtorEq, reduceIte, hlt, lenV_sl hv, view_sl hv, scalar_sl hv, cells_sl hv, pure_sl hv, hp0, ho.viewL]
    rfl
variable (hl : C.length ≤ 1000)
include hl
theorem t67 (b : Bool) (st : Bool) : Iso E 67 [cuV v, Bo b] st = some (I (fitE C b [])) := by
  refine Iso_of (es _ _ _ _) e67 ?_
  simp only [f67]
  cases hc : cuB C
  · have e : fitE C b [] = 100 := by unfold fitE; rw [if_pos hc]
    have n : ((100 : Int) != 0) = true := rfl
    simp (disch := first | assumption | omega | (simp only [az]; done)) only [ru, eq_self, if_true, if_false, BEq.rfl, binI, AO.row?, splice, fillL, mmAll, loadV, storeV, zeros, Am.rowAt, Am.part, addOff, Nat.reduceAdd, Nat.reduceMul, Nat.reduceLeDiff, Nat.reduceSub, Nat.reduceLT, Int.reduceEq, Int.reduceLT, Int.reduceLE, Int.reduceGT, Int.reduceGE, Int.reduceAdd, Int.reduceSub, Int.reduceMul, Int.reduceNeg, Int.reduceToNat, reduceCtorEq, reduceIte, lenV_sl hv, view_sl hv, scalar_sl hv, cells_sl hv, pure_sl hv, t20 hv hl, hc, e, n]
  · have n : ((0 : Int) != 0) = false := rfl
    cases b
    · have e : fitE C false [] = 1 := by unfold fitE; simp [hc]
      simp (disch := first | assumption | omega | (simp only [az]; done)) only [ru, eq_self, if_true, if_false, BEq.rfl, binI, AO.row?, splice, fillL, mmAll, loadV, storeV, zeros, Am.rowAt, Am.part, addOff, Nat.reduceAdd, Nat.reduceMul, Nat.reduceLeDiff, Nat.reduceSub, Nat.reduceLT, Int.reduceEq, Int.reduceLT, Int.reduceLE, Int.reduceGT, Int.reduceGE, Int.reduceAdd, Int.reduceSub, Int.reduceMul, Int.reduceNeg, Int.reduceToNat, reduceCtorEq, reduceIte, lenV_sl hv, view_sl hv, scalar_sl hv, cells_sl hv, pure_sl hv, t20 hv hl, hc, e, n, Bool.not_false]
    · have e : fitE C true [] = 0 := by unfold fitE; simp [hc]
      simp (disch := first | assumption | omega | (simp only [az]; done)) only [ru, eq_self, if_true, if_false, BEq.rfl, binI, AO.row?, splice, fillL, mmAll, loadV, storeV, zeros, Am.rowAt, Am.part, addOff, Nat.reduceAdd, Nat.reduceMul, Nat.reduceLeDiff, Nat.reduceSub, Nat.reduceLT, Int.reduceEq, Int.reduceLT, Int.reduceLE, Int.reduceGT, Int.reduceGE, Int.reduceAdd, Int.reduceSub, Int.reduceMul, Int.reduceNeg, Int.reduceToNat, reduceCtorEq, reduceIte, lenV_sl hv, view_sl hv, scalar_sl hv, cells_sl hv, pure_sl hv, t20 hv hl, hc, e, n, Bool.not_true]
theorem t22 (p : Int) (st : Bool) : Iso E 22 [cuV v, I p] st = some (ansL (fitE C (inR p 0 400) []) (gL C p)) := by
  refine Iso_of (es _ _ _ _) e22 ?_
  simp only [f22]
  have hf := fun st => t67 hv hl (inR p 0 400) st
  unfold ansL
  by_cases h0 : fitE C (inR p 0 400) [] = 0
  · obtain ⟨H, hb, _, _⟩ := fit_ok h0
    have n8 := H.n8
    rw [inR_iff] at hb
    have hb1 : ((0 : Int) != 0) = false := rfl
    rw [h0] at hf ⊢
    simp (disch := first | assumption | omega | (simp only [az]; done)) only [ru, eq_self, if_true, if_false, BEq.rfl, binI, AO.row?, splice, fillL, mmAll, loadV, storeV, zeros, Am.rowAt, Am.part, addOff, Nat.reduceAdd, Nat.reduceMul, Nat.reduceLeDiff, Nat.reduceSub, Nat.reduceLT, Int.reduceEq, Int.reduceLT, Int.reduceLE, Int.reduceGT, Int.reduceGE, Int.reduceAdd, Int.reduceSub, Int.reduceMul, Int.reduceNeg, Int.reduceToNat, reduceCtorEq, reduceIte, lenV_sl hv, view_sl hv, scalar_sl hv, cells_sl hv, pure_sl hv, t46, hf, hb1]
    obtain ⟨pre, hpre⟩ : ∃ pre, pre = [AO.cells [v] false] := ⟨_, rfl⟩
    have hp0 : ∀ m : List AO, (pre ++ m)[0]? = some (.cells [v] false) := fun m => by rw [hpre]; rfl
    have hpl : pre.length = 1 := by rw [hpre]; rfl
    refine G_loop_ind (fun y ts hk mk => ∃ (m : Nat) (J : List AO), m ≤ C.length ∧ y = C.length - m ∧ hk = pre ++ J ∧ OutE intL 1 pre.length (pre ++ J) (ts.getD 7 .undef) ((List.range m).map (gG C p)) ∧ ts.length = 31 ∧ ts.getD 1 .undef = I p ∧ ts.getD 2 .undef = .ptr 0 0 ∧ ts.getD 8 .undef = I m ∧ mk = []) ?_ C.length _ _ _ ⟨0, [], Nat.zero_le _, rfl, by rw [hpre]; rfl, .inl ⟨rfl, rfl⟩, rfl, rfl, rfl, rfl, rfl⟩
    rintro y ts hk mk ih ⟨m, J, hm, rfl, rfl, ho, hl', q1, q2, q6, rfl⟩
    rw [lit_all hl']
    obtain ⟨w, hw⟩ : ∃ w, w = ts.getD 7 .undef := ⟨_, rfl⟩
    rw [← hw] at ho
    have hw' := hw.symm
    simp only [lit0, litS, Nat.reduceAdd, q1, q2, q6, hw']
    by_cases hlt : (m : Int) < C.length
    · have hm' : m < C.length := by omega
      have a68 := t68 hv H hb.1 (by omega) m hm'
      obtain ⟨v', J', ha, ho'⟩ := outE_app (pre := pre) (J := J) (eb := 8) (lim := 0) intE intSc (by omega) (by omega) (by omega) ho (Nat.zero_le _) (by simp; omega) (gG C p m)
      rw [← rmap_succ] at ho'
      simp (disch := first | assumption | omega | (simp only [az]; done)) only [ru, eq_self, if_true, if_false, BEq.rfl, binI, AO.row?, splice, fillL, mmAll, loadV, storeV, zeros, Am.rowAt, Am.part, addOff, Nat.reduceAdd, Nat.reduceMul, Nat.reduceLeDiff, Nat.reduceSub, Nat.reduceLT, Int.reduceEq, Int.reduceLT, Int.reduceLE, Int.reduceGT, Int.reduceGE, Int.reduceAdd, Int.reduceSub, Int.reduceMul, Int.reduceNeg, Int.reduceToNat, reduceCtorEq, reduceIte, hlt, lenV_sl hv, view_sl hv, scalar_sl hv, cells_sl hv, pure_sl hv, hp0, a68, exOp_litS, ha]
      exact ih (C.length - (m + 1)) _ _ _ (by omega) ⟨m + 1, J', by omega, rfl, rfl, ho', rfl, rfl, rfl, rfl, rfl⟩
    · obtain rfl : m = C.length := by omega
      simp (disch := first | assumption | omega | (simp only [az]; done)) only [ru, eq_self, if_true, if_false, BEq.rfl, binI, AO.row?, splice, fillL, mmAll, loadV, storeV, zeros, Am.rowAt, Am.part, addOff, Nat.reduceAdd, Nat.reduceMul, Nat.reduceLeDiff, Nat.reduceSub, Nat.reduceLT, Int.reduceEq, Int.reduceLT, Int.reduceLE, Int.reduceGT, Int.reduceGE, Int.reduceAdd, Int.reduceSub, Int.reduceMul, Int.reduceNeg, Int.reduceToNat, reduceCtorEq, reduceIte, hlt, lenV_sl hv, view_sl hv, scalar_sl hv, cells_sl hv, pure_sl hv, hp0, ho.viewL]
      rfl
  · have hb0 : (fitE C (inR p 0 400) [] != 0) = true := by simp [h0]
    simp (disch := first | assumption | omega | (simp only [az]; done)) only [ru, eq_self, if_true, if_false, BEq.rfl, binI, AO.row?, splice, fillL, mmAll, loadV, storeV, zeros, Am.rowAt, Am.part, addOff, Nat.reduceAdd, Nat.reduceMul, Nat.reduceLeDiff, Nat.reduceSub, Nat.reduceLT, Int.reduceEq, Int.reduceLT, Int.reduceLE, Int.reduceGT, Int.reduceGE, Int.reduceAdd, Int.reduceSub, Int.reduceMul, Int.reduceNeg, Int.reduceToNat, reduceCtorEq, reduceIte, lenV_sl hv, view_sl hv, scalar_sl hv, cells_sl hv, pure_sl hv, t46, hf, hb0, h0]
    rfl
theorem t24 (p : Int) : Iso E 24 [cuV v, I p] false = some (ansL (fitE C (inR p 0 400) []) (kL C p)) := by
  refine Iso_of (es _ _ _ _) e24 ?_
  simp only [f24]
  have hf := fun st => t67 hv hl (inR p 0 400) st
  unfold ansL
  by_cases h0 : fitE C (inR p 0 400) [] = 0
  · obtain ⟨H, hb, _, _⟩ := fit_ok h0
    rw [inR_iff] at hb
    have hb1 : ((0 : Int) != 0) = false := rfl
    have a69 := fun st => t69 hv H hb.1 (by omega) st
    rw [h0] at hf ⊢
    have rk := resL_is (kL C p)
    simp (disch := first | assumption | omega | (simp only [az]; done)) only [ru, eq_self, if_true, if_false, BEq.rfl, binI, AO.row?, splice, fillL, mmAll, loadV, storeV, zeros, Am.rowAt, Am.part, addOff, Nat.reduceAdd, Nat.reduceMul, Nat.reduceLeDiff, Nat.reduceSub, Nat.reduceLT, Int.reduceEq, Int.reduceLT, Int.reduceLE, Int.reduceGT, Int.reduceGE, Int.reduceAdd, Int.reduceSub, Int.reduceMul, Int.reduceNeg, Int.reduceToNat, reduceCtorEq, reduceIte, lenV_sl hv, view_sl hv, scalar_sl hv, cells_sl hv, pure_sl hv, t46, hf, hb1, a69, lenV_sl rk, view_sl rk, scalar_sl rk, cells_sl rk, pure_sl rk]
  · have hb0 : (fitE C (inR p 0 400) [] != 0) = true := by simp [h0]
    simp (disch := first | assumption | omega | (simp only [az]; done)) only [ru, eq_self, if_true, if_false, BEq.rfl, binI, AO.row?, splice, fillL, mmAll, loadV, storeV, zeros, Am.rowAt, Am.part, addOff, Nat.reduceAdd, Nat.reduceMul, Nat.reduceLeDiff, Nat.reduceSub, Nat.reduceLT, Int.reduceEq, Int.reduceLT, Int.reduceLE, Int.reduceGT, Int.reduceGE, Int.reduceAdd, Int.reduceSub, Int.reduceMul, Int.reduceNeg, Int.reduceToNat, reduceCtorEq, reduceIte, lenV_sl hv, view_sl hv, scalar_sl hv, cells_sl hv, pure_sl hv, t46, hf, hb0, h0]
    rfl
theorem t26 (i p : Int) : Iso E 26 [cuV v, I i, I p] false = some (ansS (fitE C (inR i 0 (C.length - 1) && inR p 0 400) []) (sL C i p) (spk C i p)) := by
  refine Iso_of (es _ _ _ _) e26 ?_
  simp only [f26]
  have hf := fun b st => t67 hv hl b st
  unfold ansS
  cases hi : inR i 0 (C.length - 1)
  · have h0 : fitE C false [] ≠ 0 := by
      intro h; have := (fit_ok h).2.1; cases this
    have hb0 : (fitE C false [] != 0) = true := by simp [h0]
    simp only [Bool.false_and]
    simp (disch := first | assumption | omega | (simp only [az]; done)) only [ru, eq_self, if_true, if_false, BEq.rfl, binI, AO.row?, splice, fillL, mmAll, loadV, storeV, zeros, Am.rowAt, Am.part, addOff, Nat.reduceAdd, Nat.reduceMul, Nat.reduceLeDiff, Nat.reduceSub, Nat.reduceLT, Int.reduceEq, Int.reduceLT, Int.reduceLE, Int.reduceGT, Int.reduceGE, Int.reduceAdd, Int.reduceSub, Int.reduceMul, Int.reduceNeg, Int.reduceToNat, reduceCtorEq, reduceIte, lenV_sl hv, view_sl hv, scalar_sl hv, cells_sl hv, pure_sl hv, t46, t49 hv hl, hi, gUn, hf, hb0, h0, fin3]
    rfl
  · simp only [Bool.true_and]
    by_cases h0 : fitE C (inR p 0 400) [] = 0
    · obtain ⟨H, hb, _, _⟩ := fit_ok h0
      rw [inR_iff] at hb hi
      have hi' : inR i 0 (C.length - 1) = true := inR_iff.2 hi
      obtain ⟨q, rfl⟩ : ∃ q : Nat, i = q := ⟨i.toNat, by omega⟩
      have a72 := fun st => t72 hv H (i := q) (by omega) hb.1 (by omega) st
      have hb1 : ((0 : Int) != 0) = false := rfl
      have hf0 := fun st => hf (inR p 0 400) st
      rw [h0] at hf0 ⊢
      have rk := resL_is (sL C q p)
      simp (disch := first | assumption | omega | (simp only [az]; done)) only [ru, eq_self, if_true, if_false, BEq.rfl, binI, AO.row?, splice, fillL, mmAll, loadV, storeV, zeros, Am.rowAt, Am.part, addOff, Nat.reduceAdd, Nat.reduceMul, Nat.reduceLeDiff, Nat.reduceSub, Nat.reduceLT, Int.reduceEq, Int.reduceLT, Int.reduceLE, Int.reduceGT, Int.reduceGE, Int.reduceAdd, Int.reduceSub, Int.reduceMul, Int.reduceNeg, Int.reduceToNat, reduceCtorEq, reduceIte, lenV_sl hv, view_sl hv, scalar_sl hv, cells_sl hv, pure_sl hv, t46, t49 hv hl, hi', gUn, hf0, hb1, a72, lenV_sl rk, view_sl rk, scalar_sl rk, cells_sl rk, pure_sl rk, fin3]
    · have hb0 : (fitE C (inR p 0 400) [] != 0) = true := by simp [h0]
      simp (disch := first | assumption | omega | (simp only [az]; done)) only [ru, eq_self, if_true, if_false, BEq.rfl, binI, AO.row?, splice, fillL, mmAll, loadV, storeV, zeros, Am.rowAt, Am.part, addOff, Nat.reduceAdd, Nat.reduceMul, Nat.reduceLeDiff, Nat.reduceSub, Nat.reduceLT, Int.reduceEq, Int.reduceLT, Int.reduceLE, Int.reduceGT, Int.reduceGE, Int.reduceAdd, Int.reduceSub, Int.reduceMul, Int.reduceNeg, Int.reduceToNat, reduceCtorEq, reduceIte, lenV_sl hv, view_sl hv, scalar_sl hv, cells_sl hv, pure_sl hv, t46, t49 hv hl, hi, gUn, hf, hb0, h0, fin3]
      rfl
end
end Go.Proofs.Ytaeijjfgfenfhaa.S

