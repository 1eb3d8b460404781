/-
Wrong, Weights and Ask.
-/
import Derived.Test.YtaeijjfgfenfhaaNz
namespace Go.Proofs.Ytaeijjfgfenfhaa.S
open Go Go.Am Go.Proofs.Ytaeijjfgfenfhaa.T
set_option maxRecDepth 100000
set_option linter.unusedSimpArgs false
set_option linter.unusedVariables false

theorem wr_nil {C : List Nd} {L : List Py} : (((wrL C L L.length).length : Int) == 0) = L.all (agr C) := by
  rw [Bool.eq_iff_iff, beq_iff_eq]
  unfold wrL
  rw [ofN_len]
  constructor
  · intro h
    have h0 : ((List.range L.length).filter fun i => !agr C (L.getD i default)) = [] := List.length_eq_zero_iff.1 (by omega)
    rw [List.filter_eq_nil_iff] at h0
    rw [List.all_eq_true]
    intro x hx
    obtain ⟨i, hi, rfl⟩ := mem_getD (d := default) hx
    have := h0 i (List.mem_range.2 hi)
    simpa using this
  · intro h
    rw [List.all_eq_true] at h
    have h0 : ((List.range L.length).filter fun i => !agr C (L.getD i default)) = [] := by
      rw [List.filter_eq_nil_iff]
      intro i hi
      have := h _ (getD_mem (List.mem_range.1 hi))
      simp only [this]; simp
    rw [h0]; rfl
section
variable {C : List Nd} {v : AV} (hv : IsSl 3 Nd.e C v)
include hv
theorem t39 (hl : C.length ≤ 1000) {L : List Py} {pv : AV} (V : IsSl 3 Py.e L pv) (hL : L.length ≤ 1000) : Iso E 39 [cuV v, pv] false = some (ansL (fitE C true L) (wrL C L L.length)) := by
  refine Iso_of (es _ _ _ _) e39 ?_
  simp only [f39]
  have hf := fun st => t84 hv hl V hL true st
  unfold ansL
  by_cases h0 : fitE C true L = 0
  · obtain ⟨H, _, _, hp⟩ := fit_ok h0
    have hb1 : ((0 : Int) != 0) = false := rfl
    rw [h0] at hf ⊢
    have rl := resL_is (wrL C L L.length)
    simp (disch := first | assumption | omega | (simp only [az]; done)) only [ru, eq_self, if_true, if_false, BEq.rfl, binI, AO.row?, splice, fillL, mmAll, loadV, storeV, zeros, Am.rowAt, Am.part, addOff, Nat.reduceAdd, Nat.reduceMul, Nat.reduceLeDiff, Nat.reduceSub, Nat.reduceLT, Int.reduceEq, Int.reduceLT, Int.reduceLE, Int.reduceGT, Int.reduceGE, Int.reduceAdd, Int.reduceSub, Int.reduceMul, Int.reduceNeg, Int.reduceToNat, reduceCtorEq, reduceIte, lenV_sl hv, view_sl hv, scalar_sl hv, cells_sl hv, pure_sl hv, lenV_sl V, view_sl V, scalar_sl V, cells_sl V, pure_sl V, hf, hb1, t85 hv H V hL hp, lenV_sl rl, view_sl rl, scalar_sl rl, cells_sl rl, pure_sl rl]
  · have hb0 : (fitE C true L != 0) = true := by simp [h0]
    simp (disch := first | assumption | omega | (simp only [az]; done)) only [ru, eq_self, if_true, if_false, BEq.rfl, binI, AO.row?, splice, fillL, mmAll, loadV, storeV, zeros, Am.rowAt, Am.part, addOff, Nat.reduceAdd, Nat.reduceMul, Nat.reduceLeDiff, Nat.reduceSub, Nat.reduceLT, Int.reduceEq, Int.reduceLT, Int.reduceLE, Int.reduceGT, Int.reduceGE, Int.reduceAdd, Int.reduceSub, Int.reduceMul, Int.reduceNeg, Int.reduceToNat, reduceCtorEq, reduceIte, lenV_sl hv, view_sl hv, scalar_sl hv, cells_sl hv, pure_sl hv, lenV_sl V, view_sl V, scalar_sl V, cells_sl V, pure_sl V, hf, hb0, h0]
    rfl
set_option maxHeartbeats 1000000 in
theorem t41 (hl : C.length ≤ 1000) (i : Int) {L : List Py} {pv : AV} (V : IsSl 3 Py.e L pv) (hL : L.length ≤ 1000) (st : Bool) : Iso E 41 [cuV v, I i, pv] st = some (ansL (wtE C i L) (wtL C i.toNat L 10)) := by
  refine Iso_of (es _ _ _ _) e41 ?_
  simp only [f41]
  have hf := fun b st => t84 hv hl V hL b st
  unfold ansL wtE
  by_cases h0 : fitE C (inR i 0 (C.length - 1) && decide (i ≠ 0)) L = 0
  · obtain ⟨H, hb, _, hp⟩ := fit_ok h0
    simp only [Bool.and_eq_true, decide_eq_true_eq] at hb
    have hi' := inR_iff.1 hb.1
    obtain ⟨j, rfl⟩ : ∃ q : Nat, i = q := ⟨i.toNat, by omega⟩
    have hb1 : ((0 : Int) != 0) = false := rfl
    have hf0 := fun st => hf true st
    have bt : decide ((j : Int) ≠ 0) = true := decide_eq_true hb.2
    have bg : ((j : Int) > 0) := by have := hb.2; omega
    have e1 : fitE C true L = 0 := by rw [hb.1, bt] at h0; exact h0
    rw [e1] at hf0
    rw [hb.1, bt]
    simp only [Bool.and_self, e1, ne_eq, not_true_eq_false, if_false, Int.toNat_natCast]
    have hj : j < C.length := by omega
    simp (disch := first | assumption | omega | (simp only [az]; done)) only [ru, eq_self, if_true, if_false, BEq.rfl, binI, AO.row?, splice, fillL, mmAll, loadV, storeV, zeros, Am.rowAt, Am.part, addOff, Nat.reduceAdd, Nat.reduceMul, Nat.reduceLeDiff, Nat.reduceSub, Nat.reduceLT, Int.reduceEq, Int.reduceLT, Int.reduceLE, Int.reduceGT, Int.reduceGE, Int.reduceAdd, Int.reduceSub, Int.reduceMul, Int.reduceNeg, Int.reduceToNat, reduceCtorEq, reduceIte, lenV_sl hv, view_sl hv, scalar_sl hv, cells_sl hv, pure_sl hv, lenV_sl V, view_sl V, scalar_sl V, cells_sl V, pure_sl V, t49 hv hl, hb.1, gUn, bg, decide_true, hf0, hb1]
    obtain ⟨pre, hpre⟩ : ∃ pre, pre = [AO.cells [v] false] := ⟨_, rfl⟩
    have hp0 : ∀ m : List AO, (pre ++ m)[0]? = some (.cells [v] false) := fun m => by rw [hpre]; rfl
    have hpl : pre.length = 1 := by rw [hpre]; rfl
    refine G_loop_ind (fun y ts hk mk => ∃ (i : Nat) (J : List AO), i ≤ 10 ∧ y = 10 - i ∧ hk = pre ++ J ∧ OutE intL 1 pre.length (pre ++ J) (ts.getD 9 .undef) (wtL C j L i) ∧ ts.length = 44 ∧ ts.getD 1 .undef = I j ∧ ts.getD 2 .undef = pv ∧ ts.getD 3 .undef = .ptr 0 0 ∧ ts.getD 10 .undef = I i ∧ mk = []) ?_ 10 _ _ _ ⟨0, [], Nat.zero_le _, rfl, by rw [hpre]; rfl, .inl ⟨rfl, rfl⟩, rfl, rfl, rfl, rfl, rfl, rfl⟩
    rintro y ts hk mk ih ⟨i, J, hi, rfl, rfl, ho, hl', q1, q2, q3, q10, rfl⟩
    rw [lit_all hl']
    obtain ⟨w, hw⟩ : ∃ w, w = ts.getD 9 .undef := ⟨_, rfl⟩
    rw [← hw] at ho
    have hw' := hw.symm
    simp only [lit0, litS, Nat.reduceAdd, q1, q2, q3, q10, hw']
    by_cases hlt : (i : Int) ≤ 9
    · have H' := wth_ok H hj (w := (i : Int)) (by omega)
      have h87 := fun st => t87 hv H hj (i : Int) st
      have sv := slV_is (esz := 3) (enc := Nd.e) (l := wth C j i)
      have h85 := fun st => t85 sv H' V hL (fun x hx => by rw [wth_len]; exact hp x hx) st
      have rl := resL_is (wrL (wth C j i) L L.length)
      obtain ⟨u, hu⟩ : ∃ u, u = resL (wrL (wth C j i) L L.length) := ⟨_, rfl⟩
      rw [← hu] at h85 rl
      have wn := wr_nil (C := wth C j i) (L := L)
      have hlen : (wtL C j L i).length ≤ 1000 := by unfold wtL; rw [ofN_len]; exact Nat.le_trans (List.length_filter_le _ _) (by simp; omega)
      cases hc : L.all (agr (wth C j i)) with
      | true =>
        rw [hc] at wn
        have e2 : wtL C j L (i + 1) = wtL C j L i ++ [(i : Int)] := by rw [wtL_succ, if_pos hc]
        obtain ⟨v', J', ha, ho'⟩ := outE_app (pre := pre) (J := J) (eb := 8) (lim := 0) intE intSc (by omega) (by omega) (by omega) ho (Nat.zero_le _) (by omega) (i : Int)
        simp (disch := first | assumption | omega | (simp only [az]; done)) only [ru, eq_self, if_true, if_false, BEq.rfl, binI, AO.row?, splice, fillL, mmAll, loadV, storeV, zeros, Am.rowAt, Am.part, addOff, Nat.reduceAdd, Nat.reduceMul, Nat.reduceLeDiff, Nat.reduceSub, Nat.reduceLT, Int.reduceEq, Int.reduceLT, Int.reduceLE, Int.reduceGT, Int.reduceGE, Int.reduceAdd, Int.reduceSub, Int.reduceMul, Int.reduceNeg, Int.reduceToNat, reduceCtorEq, reduceIte, hlt, lenV_sl hv, view_sl hv, scalar_sl hv, cells_sl hv, pure_sl hv, lenV_sl V, view_sl V, scalar_sl V, cells_sl V, pure_sl V, lenV_sl sv, view_sl sv, scalar_sl sv, cells_sl sv, pure_sl sv, lenV_sl rl, view_sl rl, scalar_sl rl, cells_sl rl, pure_sl rl, hp0, exOp_litS, h87, h85, wn, ha]
        exact ih (10 - (i + 1)) _ _ _ (by omega) ⟨i + 1, J', by omega, rfl, rfl, by rw [e2]; exact ho', rfl, rfl, rfl, rfl, rfl, rfl⟩
      | false =>
        rw [hc] at wn
        have e2 : wtL C j L (i + 1) = wtL C j L i := by rw [wtL_succ, if_neg (by rw [hc]; simp)]
        simp (disch := first | assumption | omega | (simp only [az]; done)) only [ru, eq_self, if_true, if_false, BEq.rfl, binI, AO.row?, splice, fillL, mmAll, loadV, storeV, zeros, Am.rowAt, Am.part, addOff, Nat.reduceAdd, Nat.reduceMul, Nat.reduceLeDiff, Nat.reduceSub, Nat.reduceLT, Int.reduceEq, Int.reduceLT, Int.reduceLE, Int.reduceGT, Int.reduceGE, Int.reduceAdd, Int.reduceSub, Int.reduceMul, Int.reduceNeg, Int.reduceToNat, reduceCtorEq, reduceIte, hlt, lenV_sl hv, view_sl hv, scalar_sl hv, cells_sl hv, pure_sl hv, lenV_sl V, view_sl V, scalar_sl V, cells_sl V, pure_sl V, lenV_sl sv, view_sl sv, scalar_sl sv, cells_sl sv, pure_sl sv, lenV_sl rl, view_sl rl, scalar_sl rl, cells_sl rl, pure_sl rl, hp0, h87, h85, wn]
        exact ih (10 - (i + 1)) _ _ _ (by omega) ⟨i + 1, J, by omega, rfl, rfl, by rw [e2]; exact ho, rfl, rfl, rfl, rfl, rfl, rfl⟩
    · obtain rfl : i = 10 := by omega
      by_cases c : (wtL C j L 10).length = 0
      · have cb : (((wtL C j L 10).length : Int) == 0) = true := by simp [c]
        simp (disch := first | assumption | omega | (simp only [az]; done)) only [ru, eq_self, if_true, if_false, BEq.rfl, binI, AO.row?, splice, fillL, mmAll, loadV, storeV, zeros, Am.rowAt, Am.part, addOff, Nat.reduceAdd, Nat.reduceMul, Nat.reduceLeDiff, Nat.reduceSub, Nat.reduceLT, Int.reduceEq, Int.reduceLT, Int.reduceLE, Int.reduceGT, Int.reduceGE, Int.reduceAdd, Int.reduceSub, Int.reduceMul, Int.reduceNeg, Int.reduceToNat, reduceCtorEq, reduceIte, hlt, ho.lenL, cb, c]
        rfl
      · have cb : (((wtL C j L 10).length : Int) == 0) = false := by simp; intro e; rw [e] at c; simp at c
        simp (disch := first | assumption | omega | (simp only [az]; done)) only [ru, eq_self, if_true, if_false, BEq.rfl, binI, AO.row?, splice, fillL, mmAll, loadV, storeV, zeros, Am.rowAt, Am.part, addOff, Nat.reduceAdd, Nat.reduceMul, Nat.reduceLeDiff, Nat.reduceSub, Nat.reduceLT, Int.reduceEq, Int.reduceLT, Int.reduceLE, Int.reduceGT, Int.reduceGE, Int.reduceAdd, Int.reduceSub, Int.reduceMul, Int.reduceNeg, Int.reduceToNat, reduceCtorEq, reduceIte, hlt, ho.lenL, cb, c, ho.viewL]
  · have hb0 : (fitE C (inR i 0 (C.length - 1) && decide (i ≠ 0)) L != 0) = true := bne_iff_ne.2 h0
    simp only [ne_eq, h0, not_false_eq_true, if_true, if_false]
    cases hi : inR i 0 (C.length - 1)
    · rw [hi] at h0 hb0
      simp only [Bool.false_and] at h0 hb0 ⊢
      simp (disch := first | assumption | omega | (simp only [az]; done)) only [ru, eq_self, if_true, if_false, BEq.rfl, binI, AO.row?, splice, fillL, mmAll, loadV, storeV, zeros, Am.rowAt, Am.part, addOff, Nat.reduceAdd, Nat.reduceMul, Nat.reduceLeDiff, Nat.reduceSub, Nat.reduceLT, Int.reduceEq, Int.reduceLT, Int.reduceLE, Int.reduceGT, Int.reduceGE, Int.reduceAdd, Int.reduceSub, Int.reduceMul, Int.reduceNeg, Int.reduceToNat, reduceCtorEq, reduceIte, lenV_sl hv, view_sl hv, scalar_sl hv, cells_sl hv, pure_sl hv, lenV_sl V, view_sl V, scalar_sl V, cells_sl V, pure_sl V, t49 hv hl, hi, gUn, hf, hb0, h0]
      rfl
    · have hi' := inR_iff.1 hi
      have bt : decide (i ≠ 0) = decide (i > 0) := by by_cases c : i = 0 <;> simp [c]; omega
      rw [hi, bt] at h0 hb0
      rw [show decide ¬ i = 0 = decide (i > 0) from bt]
      simp only [Bool.true_and] at h0 hb0 ⊢
      simp (disch := first | assumption | omega | (simp only [az]; done)) only [ru, eq_self, if_true, if_false, BEq.rfl, binI, AO.row?, splice, fillL, mmAll, loadV, storeV, zeros, Am.rowAt, Am.part, addOff, Nat.reduceAdd, Nat.reduceMul, Nat.reduceLeDiff, Nat.reduceSub, Nat.reduceLT, Int.reduceEq, Int.reduceLT, Int.reduceLE, Int.reduceGT, Int.reduceGE, Int.reduceAdd, Int.reduceSub, Int.reduceMul, Int.reduceNeg, Int.reduceToNat, reduceCtorEq, reduceIte, lenV_sl hv, view_sl hv, scalar_sl hv, cells_sl hv, pure_sl hv, lenV_sl V, view_sl V, scalar_sl V, cells_sl V, pure_sl V, t49 hv hl, hi, gUn, hf, hb0, h0]
      rfl
set_option maxHeartbeats 1000000 in
/-- so many pence tell the weights apart -/
theorem t90 (H : CuOk C) {j : Nat} (hj : j < C.length) {p : Int} (hp : 0 ≤ p) (hp2 : p ≤ 1000) {ws : List Int} {wv : AV} (V : IsSl 1 intL ws wv) (hw : ∀ w ∈ ws, 0 ≤ w ∧ w ≤ 9) (hl : ws.length ≤ 1000) (st : Bool) : Iso E 90 [cuV v, I j, wv, I p] st = some (Bo (apt C j p ws)) := by
  refine Iso_of (es _ _ _ _) e90 ?_
  simp only [f90]
  simp (disch := first | assumption | omega | (simp only [az]; done)) only [ru, eq_self, if_true, if_false, BEq.rfl, binI, AO.row?, splice, fillL, mmAll, loadV, storeV, zeros, Am.rowAt, Am.part, addOff, Nat.reduceAdd, Nat.reduceMul, Nat.reduceLeDiff, Nat.reduceSub, Nat.reduceLT, Int.reduceEq, Int.reduceLT, Int.reduceLE, Int.reduceGT, Int.reduceGE, Int.reduceAdd, Int.reduceSub, Int.reduceMul, Int.reduceNeg, Int.reduceToNat, reduceCtorEq, reduceIte, lenV_sl hv, view_sl hv, scalar_sl hv, cells_sl hv, pure_sl hv, lenV_sl V, elem_in V, view_sl V, scalar_sl V, cells_sl V, pure_sl V, Int.toNat_natCast]
  obtain ⟨g, hg⟩ : ∃ g : Int → Int, g = fun w => gG (wth C j w) p j := ⟨_, rfl⟩
  have eA : apt C j p ws = decide (ws.map g).Nodup := by unfold apt; rw [hg]
  obtain ⟨pre, hpre⟩ : ∃ pre, pre = [AO.cells [v] false] := ⟨_, rfl⟩
  have hp0 : ∀ m : List AO, (pre ++ m)[0]? = some (.cells [v] false) := fun m => by rw [hpre]; rfl
  have hpl : pre.length = 1 := by rw [hpre]; rfl
  refine G_loop_ind (fun y ts hk mk => ∃ (i : Nat) (J : List AO), i ≤ ws.length ∧ y = ws.length - i ∧ ((ws.take i).map g).Nodup ∧ hk = pre ++ J ∧ OutE intL 1 pre.length (pre ++ J) (ts.getD 9 .undef) ((ws.take i).map g) ∧ ts.length = 35 ∧ ts.getD 1 .undef = I j ∧ ts.getD 2 .undef = wv ∧ ts.getD 3 .undef = I p ∧ ts.getD 4 .undef = .ptr 0 0 ∧ ts.getD 10 .undef = I i ∧ mk = []) ?_ ws.length _ _ _ ⟨0, [], Nat.zero_le _, rfl, List.nodup_nil, by rw [hpre]; rfl, .inl ⟨rfl, rfl⟩, rfl, rfl, rfl, rfl, rfl, rfl, rfl⟩
  rintro y ts hk mk ih ⟨i, J, hi, rfl, hnd, rfl, ho, hl', q1, q2, q3, q4, q10, rfl⟩
  rw [lit_all hl']
  obtain ⟨w, hw9⟩ : ∃ w, w = ts.getD 9 .undef := ⟨_, rfl⟩
  rw [← hw9] at ho
  have hw' := hw9.symm
  simp only [lit0, litS, Nat.reduceAdd, q1, q2, q3, q4, q10, hw']
  by_cases hlt : (i : Int) < ws.length
  · have hi' : i < ws.length := by omega
    have hwm := hw (ws.getD i 0) (getD_memI (by omega))
    have h87 := fun st => t87 hv H hj (ws.getD i 0) st
    have sv := slV_is (esz := 3) (enc := Nd.e) (l := wth C j (ws.getD i 0))
    have h68 := t68 sv (wth_ok H hj hwm) hp hp2 j (by rw [wth_len]; exact hj)
    have hgw : gG (wth C j (ws.getD i 0)) p j = g (ws.getD i 0) := by rw [hg]
    rw [hgw] at h68
    have tk : (ws.take (i + 1)).map g = (ws.take i).map g ++ [g (ws.getD i 0)] := by rw [take_snoc (d := 0) hi']; simp
    have ml : ((ws.take i).map g).length ≤ 1000 := by simp; omega
    have r9 := resL_is ((ws.take i).map g)
    have h55 := fun st => t55 r9 ml (g (ws.getD i 0)) st
    by_cases c : g (ws.getD i 0) ∈ (ws.take i).map g
    · have hn : apt C j p ws = false := by
        rw [eA, decide_eq_false_iff_not]
        intro hnd2
        have h1 : ((ws.take (i + 1)).map g).Nodup := by
          rw [← List.take_append_drop (i + 1) ws, List.map_append] at hnd2
          exact (List.nodup_append.1 hnd2).1
        rw [tk] at h1
        exact (List.nodup_append.1 h1).2.2 _ c _ (by simp) rfl
      simp (disch := first | assumption | omega | (simp only [az]; done)) only [ru, eq_self, if_true, if_false, BEq.rfl, binI, AO.row?, splice, fillL, mmAll, loadV, storeV, zeros, Am.rowAt, Am.part, addOff, Nat.reduceAdd, Nat.reduceMul, Nat.reduceLeDiff, Nat.reduceSub, Nat.reduceLT, Int.reduceEq, Int.reduceLT, Int.reduceLE, Int.reduceGT, Int.reduceGE, Int.reduceAdd, Int.reduceSub, Int.reduceMul, Int.reduceNeg, Int.reduceToNat, reduceCtorEq, reduceIte, hlt, lenV_sl hv, view_sl hv, scalar_sl hv, cells_sl hv, pure_sl hv, lenV_sl V, elem_in V, view_sl V, scalar_sl V, cells_sl V, pure_sl V, Int.toNat_natCast, lenV_sl sv, view_sl sv, scalar_sl sv, cells_sl sv, pure_sl sv, hp0, h87, h68, ho.viewL, h55, decide_eq_true c, hn]
    · have hnx : ((ws.take (i + 1)).map g).Nodup := by
        rw [tk, List.nodup_append]
        refine ⟨hnd, by simp, fun a ha b hb => ?_⟩
        rw [List.mem_singleton] at hb; subst hb
        rintro rfl; exact c ha
      obtain ⟨v', J', ha, ho'⟩ := outE_app (pre := pre) (J := J) (eb := 8) (lim := 0) intE intSc (by omega) (by omega) (by omega) ho (Nat.zero_le _) (by omega) (g (ws.getD i 0))
      rw [← tk] at ho'
      simp (disch := first | assumption | omega | (simp only [az]; done)) only [ru, eq_self, if_true, if_false, BEq.rfl, binI, AO.row?, splice, fillL, mmAll, loadV, storeV, zeros, Am.rowAt, Am.part, addOff, Nat.reduceAdd, Nat.reduceMul, Nat.reduceLeDiff, Nat.reduceSub, Nat.reduceLT, Int.reduceEq, Int.reduceLT, Int.reduceLE, Int.reduceGT, Int.reduceGE, Int.reduceAdd, Int.reduceSub, Int.reduceMul, Int.reduceNeg, Int.reduceToNat, reduceCtorEq, reduceIte, hlt, lenV_sl hv, view_sl hv, scalar_sl hv, cells_sl hv, pure_sl hv, lenV_sl V, elem_in V, view_sl V, scalar_sl V, cells_sl V, pure_sl V, Int.toNat_natCast, lenV_sl sv, view_sl sv, scalar_sl sv, cells_sl sv, pure_sl sv, hp0, h87, h68, ho.viewL, h55, decide_eq_false c, exOp_litS, ha]
      exact ih (ws.length - (i + 1)) _ _ _ (by omega) ⟨i + 1, J', by omega, rfl, hnx, rfl, ho', rfl, rfl, rfl, rfl, rfl, rfl, rfl⟩
  · obtain rfl : i = ws.length := by omega
    rw [List.take_length] at hnd
    have hn : apt C j p ws = true := by rw [eA, decide_eq_true_eq]; exact hnd
    simp (disch := first | assumption | omega | (simp only [az]; done)) only [ru, eq_self, if_true, if_false, BEq.rfl, binI, AO.row?, splice, fillL, mmAll, loadV, storeV, zeros, Am.rowAt, Am.part, addOff, Nat.reduceAdd, Nat.reduceMul, Nat.reduceLeDiff, Nat.reduceSub, Nat.reduceLT, Int.reduceEq, Int.reduceLT, Int.reduceLE, Int.reduceGT, Int.reduceGE, Int.reduceAdd, Int.reduceSub, Int.reduceMul, Int.reduceNeg, Int.reduceToNat, reduceCtorEq, reduceIte, hlt, lenV_sl V, elem_in V, view_sl V, scalar_sl V, cells_sl V, pure_sl V, Int.toNat_natCast, hn]
end
end Go.Proofs.Ytaeijjfgfenfhaa.S

