/-
The program's digits: a list that is filled from behind.
-/
import Derived.Test.YtfagcnokdnanpaaGreatGd
namespace Go.Proofs.YtfagcnokdnanpaaGreat.S
open Go Go.Am Go.Proofs.YtfagcnokdnanpaaGreat.T
set_option maxRecDepth 100000
set_option linter.unusedSimpArgs false
set_option linter.unusedVariables false
def dgt (N B m i : Nat) : Int := ((N / B ^ (m - 1 - i) % B : Nat) : Int)
def dgP (N B m i : Nat) : List Int := (List.range m).map fun j => if i ≤ j then dgt N B m j else 0
def dgL (N B m : Nat) : List Int := (List.range m).map fun j => dgt N B m j
theorem dgP_zero {N B m : Nat} : dgP N B m 0 = dgL N B m := by simp [dgP, dgL]
theorem dgP_all {N B m : Nat} : dgP N B m m = List.replicate m 0 := by
  rw [List.eq_replicate_iff]
  refine ⟨by simp [dgP], fun x hx => ?_⟩
  simp only [dgP, List.mem_map, List.mem_range] at hx
  obtain ⟨j, hj, rfl⟩ := hx
  rw [if_neg (by omega)]
theorem dgP_len {N B m i : Nat} : (dgP N B m i).length = m := by simp [dgP]
theorem dgP_set {N B m i : Nat} (hi : i < m) : (dgP N B m (i + 1)).set i (dgt N B m i) = dgP N B m i := by
  apply List.ext_getElem (by simp [dgP])
  intro j h1 h2
  rw [List.getElem_set]
  simp only [dgP, List.getElem_map, List.getElem_range]
  split
  · subst_vars; rw [if_pos (Nat.le_refl _)]
  · by_cases h : i + 1 ≤ j
    · rw [if_pos h, if_pos (by omega)]
    · rw [if_neg h, if_neg (by omega)]
theorem zeros_flat : ∀ m : Nat, List.replicate m (I 0) = (List.replicate m (0 : Int)).flatMap intL
  | 0 => rfl
  | m + 1 => by rw [List.replicate_succ, List.replicate_succ, List.flatMap_cons, ← zeros_flat m]; rfl
section
set_option maxHeartbeats 2000000 in
theorem r143 {m lim : Nat} (hm : m ≤ 1000) (hlim : lim ≤ 6) {P : Nat → List AO → Prop}
    (h4 : ∀ i h, P i h → h[4]? = some (.cells [.ms 1 2 0 m] false) ∧ ∃ c : List Int, h[2]? = some (.cells (c.flatMap intL) false) ∧ c.length = m)
    (hstep : ∀ (i : Nat) (v : Int) h, i < m → P (i + 1) h → ∃ g', R E (.rnd 6) [I i, I v] h lim = some (Bo true, g') ∧ P i g') {g : List AO} (h0 : P m g) :
    ∃ u g', R E (.fn 143) [.yld 6, .ptr 4 0] g lim = some (u, g') ∧ P 0 g' := by
  refine R_of _ (es _ _ _ _) e143 ?_
  simp only [f143]
  have c4 := (h4 _ _ h0).1
  simp (disch := first | assumption | omega | (simp only [az]; done)) only [ru, eq_self, if_true, if_false, BEq.rfl, binI, AO.row?, splice, fillL, mmAll, loadV, storeV, zeros, Am.rowAt, Am.part, addOff, Nat.reduceAdd, Nat.reduceMul, Nat.reduceLeDiff, Nat.reduceSub, Nat.reduceLT, Int.reduceEq, Int.reduceLT, Int.reduceLE, Int.reduceGT, Int.reduceGE, Int.reduceAdd, Int.reduceSub, Int.reduceMul, Int.reduceNeg, Int.reduceToNat, reduceCtorEq, reduceIte, c4, lenV_ms]
  refine G_loop_ind (fun y ts hk mk => ∃ i : Nat, i ≤ m ∧ i = y ∧ P i hk ∧ ts.length = 19 ∧ ts.getD 0 .undef = .yld 6 ∧ ts.getD 1 .undef = .ptr 4 0 ∧ ts.getD 3 .undef = I ((i : Int) - 1) ∧ mk = []) ?_ m _ _ _ ⟨m, Nat.le_refl _, rfl, h0, rfl, rfl, rfl, rfl, rfl⟩
  rintro y ts hk mk ih ⟨i, hi, rfl, hp, hl', q0, q1, q3, rfl⟩
  rw [lit_all hl']
  simp only [lit0, litS, Nat.reduceAdd, q0, q1, q3]
  obtain ⟨d4, c, d2, cl⟩ := h4 _ _ hp
  cases i with
  | zero =>
    have n1 : ¬ ((0 : Nat) : Int) - 1 ≥ 0 := by omega
    simp (disch := first | assumption | omega | (simp only [az]; done)) only [ru, eq_self, if_true, if_false, BEq.rfl, binI, AO.row?, splice, fillL, mmAll, loadV, storeV, zeros, Am.rowAt, Am.part, addOff, Nat.reduceAdd, Nat.reduceMul, Nat.reduceLeDiff, Nat.reduceSub, Nat.reduceLT, Int.reduceEq, Int.reduceLT, Int.reduceLE, Int.reduceGT, Int.reduceGE, Int.reduceAdd, Int.reduceSub, Int.reduceMul, Int.reduceNeg, Int.reduceToNat, reduceCtorEq, reduceIte, n1, fin0, fin0n]
    exact hp
  | succ i =>
    have n1 : (((i + 1 : Nat) : Int) - 1) = (i : Int) := by omega
    have n2 : (i : Int) ≥ 0 := by omega
    obtain ⟨g', hr, hp'⟩ := hstep i (c.getD i 0) hk (by omega) hp
    have el : elemAt 1 (.ms 1 2 0 m) (I i) = some (.ptr 2 i) := by
      have : (i : Int) < m := by omega
      simp [elemAt, this]
    have hh : (List.drop i (c.flatMap intL)).head? = some (I (c.getD i 0)) := by
      have e : c.flatMap intL = c.map I := by
        clear hr hp d2 cl
        induction c with
        | nil => rfl
        | cons a c ih => rw [List.flatMap_cons, ih, List.map_cons]; rfl
      rw [e, List.head?_drop, List.getElem?_map, List.getD_eq_getElem?_getD, List.getElem?_eq_getElem (by omega)]; rfl
    simp only [n1]
    simp (disch := first | assumption | omega | (simp only [az]; done)) only [ru, eq_self, if_true, if_false, BEq.rfl, binI, AO.row?, splice, fillL, mmAll, loadV, storeV, zeros, Am.rowAt, Am.part, addOff, Nat.reduceAdd, Nat.reduceMul, Nat.reduceLeDiff, Nat.reduceSub, Nat.reduceLT, Int.reduceEq, Int.reduceLT, Int.reduceLE, Int.reduceGT, Int.reduceGE, Int.reduceAdd, Int.reduceSub, Int.reduceMul, Int.reduceNeg, Int.reduceToNat, reduceCtorEq, reduceIte, n2, d4, el, d2, hh, exOp_callv0, List.nil_append, hr, Bool.not_true]
    exact ih i _ _ _ (by omega) ⟨i, by omega, rfl, hp', rfl, rfl, rfl, rfl, rfl⟩
theorem r138 {v : AV} (hv : v.cells = [v]) (h : List AO) (lim : Nat) : R E (.fn 138) [v] h lim = some (.fn 143 [] [.ptr h.length 0], h ++ [.cells [v] false]) := by
  have hr : ∃ r J, R E (.fn 138) [v] h lim = some (r, J) ∧ (r = .fn 143 [] [.ptr h.length 0] ∧ J = h ++ [.cells [v] false]) := by
    refine R_of (fun r J => r = .fn 143 [] [.ptr h.length 0] ∧ J = h ++ [.cells [v] false]) (es _ _ _ _) e138 ?_
    simp only [f138]
    simp (disch := first | assumption | omega | (simp only [az]; done)) only [ru, eq_self, if_true, if_false, BEq.rfl, binI, AO.row?, splice, fillL, mmAll, loadV, storeV, zeros, Am.rowAt, Am.part, addOff, Nat.reduceAdd, Nat.reduceMul, Nat.reduceLeDiff, Nat.reduceSub, Nat.reduceLT, Int.reduceEq, Int.reduceLT, Int.reduceLE, Int.reduceGT, Int.reduceGE, Int.reduceAdd, Int.reduceSub, Int.reduceMul, Int.reduceNeg, Int.reduceToNat, reduceCtorEq, reduceIte, hv]
  obtain ⟨_, _, hr, rfl, rfl⟩ := hr
  exact hr
set_option maxHeartbeats 4000000 in
theorem t129 {N B m : Nat} (hN : N ≤ 5000) (hB : B ≤ 4) (hm : m ≤ 6) (h1 : 1 ≤ B ∨ m = 0) : Iso E 129 [I N, I B, I m] false = some (slV 1 intL (dgL N B m)) := by
  have key : ∃ r g', R E (.fn 129) [I N, I B, I m] [] 0 = some (r, g') ∧ (r = .ms 1 2 0 m ∧ g'[2]? = some (.cells ((dgL N B m).flatMap intL) false)) := by
    refine R_of _ (es _ _ _ _) e129 ?_
    simp only [f129]
    have b0 : (0 : Int) ≤ (m : Int) := by omega
    have b8 : (8 : Int) * (m : Int) ≤ 140737488355328 := by omega
    simp (disch := first | assumption | omega | (simp only [az]; done)) only [ru, eq_self, if_true, if_false, BEq.rfl, binI, AO.row?, splice, fillL, mmAll, loadV, storeV, zeros, Am.rowAt, Am.part, addOff, Nat.reduceAdd, Nat.reduceMul, Nat.reduceLeDiff, Nat.reduceSub, Nat.reduceLT, Int.reduceEq, Int.reduceLT, Int.reduceLE, Int.reduceGT, Int.reduceGE, Int.reduceAdd, Int.reduceSub, Int.reduceMul, Int.reduceNeg, Int.reduceToNat, reduceCtorEq, reduceIte, b0, b8, flat_rep, Int.toNat_natCast, exOp_makeF, Int.le_refl, exOp_call0, r138 (v := .ms 1 2 0 m) rfl]
    refine G_range_gen fun TS AS BD hTS hAS hBD => ?_
    obtain ⟨H1, hH1⟩ : ∃ H1 : List AO, H1 = [.cells [I N] false, .cells [I B] false, .cells (List.replicate m (I 0)) false, .cells [.ms 1 2 0 m] false, .cells [.ms 1 2 0 m] false, .dfr, .loop .ready none 129 TS [13, 14] AS BD 5] := ⟨_, rfl⟩
    have key := r143 (m := m) (lim := 0) (by omega) (by omega) (P := fun i h => h[0]? = some (.cells [I ((N / B ^ (m - i) : Nat) : Int)] false) ∧ h[1]? = some (.cells [I B] false) ∧ h[2]? = some (.cells ((dgP N B m i).flatMap intL) false) ∧ h[3]? = some (.cells [.ms 1 2 0 m] false) ∧ h[4]? = some (.cells [.ms 1 2 0 m] false) ∧ h[5]? = some .dfr ∧ h[6]? = some (.loop .ready none 129 TS [13, 14] AS BD 5))
      (fun i h hp => ⟨hp.2.2.2.2.1, _, hp.2.2.1, dgP_len⟩) ?_ (g := H1) ?_
    · refine G_range_of rfl (by rw [hTS]; rfl) ?_
      obtain ⟨u, h3, hr, p0, p1, p2, p3, p4, p5, p6⟩ := key
      rw [hH1] at hr
      refine ⟨u, h3, .ready, none, 129, TS, [13, 14], AS, BD, 5, hr, p6, .inl rfl, ?_⟩
      simp only [Option.getD_none, GE_nrm]
      obtain ⟨h4, hh4⟩ : ∃ h4, h4 = h3.set (5 + 1) (AO.loop .exhausted none 129 TS [13, 14] AS BD 5) := ⟨_, rfl⟩
      have k2 : h4[2]? = some (.cells ((dgL N B m).flatMap intL) false) := by rw [hh4, List.getElem?_set_ne (by omega), ← dgP_zero]; exact p2
      have k3 : h4[3]? = some (.cells [.ms 1 2 0 m] false) := by rw [hh4, List.getElem?_set_ne (by omega)]; exact p3
      have k5 : h4[5]? = some .dfr := by rw [hh4, List.getElem?_set_ne (by omega)]; exact p5
      show G _ _ _ _ (h3.set (5 + 1) (AO.loop .exhausted none 129 TS [13, 14] AS BD 5)) _
      rw [← hh4]
      refine G_at rfl hTS ?_
      simp (disch := first | assumption | omega | (simp only [az]; done)) only [ru, eq_self, if_true, if_false, BEq.rfl, binI, AO.row?, splice, fillL, mmAll, loadV, storeV, zeros, Am.rowAt, Am.part, addOff, Nat.reduceAdd, Nat.reduceMul, Nat.reduceLeDiff, Nat.reduceSub, Nat.reduceLT, Int.reduceEq, Int.reduceLT, Int.reduceLE, Int.reduceGT, Int.reduceGE, Int.reduceAdd, Int.reduceSub, Int.reduceMul, Int.reduceNeg, Int.reduceToNat, reduceCtorEq, reduceIte, k3]
      refine finM (h' := h4.set 5 .tomb) (vs := [.ms 1 2 0 m]) (.inr rfl) (by simp) ?_ ?_ ?_
      · simp only [takeMarks, k5]
      · simp (disch := first | assumption | omega | (simp only [az]; done)) only [ru, eq_self, if_true, if_false, BEq.rfl, binI, AO.row?, splice, fillL, mmAll, loadV, storeV, zeros, Am.rowAt, Am.part, addOff, Nat.reduceAdd, Nat.reduceMul, Nat.reduceLeDiff, Nat.reduceSub, Nat.reduceLT, Int.reduceEq, Int.reduceLT, Int.reduceLE, Int.reduceGT, Int.reduceGE, Int.reduceAdd, Int.reduceSub, Int.reduceMul, Int.reduceNeg, Int.reduceToNat, reduceCtorEq, reduceIte, List.mapM_cons, List.mapM_nil, getRes, Option.bind_eq_bind, Option.pure_def, Option.bind_some]
      · exact ⟨rfl, by rw [List.getElem?_set_ne (by omega)]; exact k2⟩
    · rintro i v h hi ⟨p0, p1, p2, p3, p4, p5, p6⟩
      have hB1 : 1 ≤ B := by omega
      refine (fun ⟨u, h', hr, e, hp⟩ => ⟨h', by rw [← e]; exact hr, hp⟩ : (∃ u h', R E (.rnd 6) [I i, I v] h 0 = some (u, h') ∧ u = Bo true ∧ _) → _) (R_rnd_of (E := E) (lim := 0) (args := [I i, I v]) _ p6 rfl (by omega) ?_)
      refine G_at hAS (by rw [hTS]) ?_
      simp only [setAll, List.set_cons_succ, List.set_cons_zero]
      simp (disch := first | assumption | omega | (simp only [az]; done)) only [ru, eq_self, if_true, if_false, BEq.rfl, binI, AO.row?, splice, fillL, mmAll, loadV, storeV, zeros, Am.rowAt, Am.part, addOff, Nat.reduceAdd, Nat.reduceMul, Nat.reduceLeDiff, Nat.reduceSub, Nat.reduceLT, Int.reduceEq, Int.reduceLT, Int.reduceLE, Int.reduceGT, Int.reduceGE, Int.reduceAdd, Int.reduceSub, Int.reduceMul, Int.reduceNeg, Int.reduceToNat, reduceCtorEq, reduceIte]
      refine ⟨none, 129, TS, [13, 14], AS, BD, 5, p6, ?_⟩
      obtain ⟨h6, hh6⟩ : ∃ h6, h6 = h.set 6 (AO.loop .busy none 129 TS [13, 14] AS BD 5) := ⟨_, rfl⟩
      rw [← hh6]
      have l6 := (List.getElem?_eq_some_iff.1 p6).1
      have n0 : h6[0]? = some (.cells [I ((N / B ^ (m - (i + 1)) : Nat) : Int)] false) := by rw [hh6, List.getElem?_set_ne (by omega)]; exact p0
      have n1 : h6[1]? = some (.cells [I B] false) := by rw [hh6, List.getElem?_set_ne (by omega)]; exact p1
      have n2 : h6[2]? = some (.cells ((dgP N B m (i + 1)).flatMap intL) false) := by rw [hh6, List.getElem?_set_ne (by omega)]; exact p2
      have n3 : h6[3]? = some (.cells [.ms 1 2 0 m] false) := by rw [hh6, List.getElem?_set_ne (by omega)]; exact p3
      have n4 : h6[4]? = some (.cells [.ms 1 2 0 m] false) := by rw [hh6, List.getElem?_set_ne (by omega)]; exact p4
      have n5 : h6[5]? = some .dfr := by rw [hh6, List.getElem?_set_ne (by omega)]; exact p5
      have n6 : h6[6]? = some (.loop .busy none 129 TS [13, 14] AS BD 5) := by rw [hh6, List.getElem?_set_self l6]
      obtain ⟨Q, hQ⟩ : ∃ Q, Q = N / B ^ (m - (i + 1)) := ⟨_, rfl⟩
      have qN : Q ≤ N := by rw [hQ]; exact Nat.div_le_self _ _
      rw [← hQ] at n0
      have el : elemAt 1 (.ms 1 2 0 m) (I i) = some (.ptr 2 i) := by
        have : (i : Int) < m := by omega
        simp [elemAt, this]
      refine G_at hBD rfl ?_
      have b1 : ¬ (B : Int) = 0 := by omega
      have tm : (Q : Int).tmod (B : Int) = ((Q % B : Nat) : Int) := rfl
      obtain ⟨D, hD⟩ : ∃ D, D = Q / B := ⟨_, rfl⟩
      have tq : (Q : Int).tdiv (B : Int) = (D : Int) := by rw [hD]; rfl
      have qb : D ≤ Q := by rw [hD]; exact Nat.div_le_self _ _
      have fl : i + 1 ≤ ((dgP N B m (i + 1)).flatMap intL).length := by rw [show ((dgP N B m (i + 1)).flatMap intL).length = (dgP N B m (i + 1)).length from flat1 _, dgP_len]; omega
      have pu : ∀ x : Int, List.take i ((dgP N B m (i + 1)).flatMap intL) ++ [AV.int IntKind.i64 x] ++ List.drop (i + 1) ((dgP N B m (i + 1)).flatMap intL) = ((dgP N B m (i + 1)).set i x).flatMap intL := fun x => by
        have key : ∀ {l : List Int} {i : Nat}, i < l.length → List.take i (l.flatMap intL) ++ [I x] ++ List.drop (i + 1) (l.flatMap intL) = (l.set i x).flatMap intL := by
          intro l
          induction l with
          | nil => intro i h; simp at h
          | cons a l ih =>
            intro i h
            cases i with
            | zero => rfl
            | succ i =>
              have := ih (i := i) (by simpa using h)
              simp only [List.flatMap_cons, List.set_cons_succ, ← this]
              rfl
        exact key (by rw [dgP_len]; exact hi)
      have dg : ((Q % B : Nat) : Int) = dgt N B m i := by
        unfold dgt; rw [hQ, show m - 1 - i = m - (i + 1) by omega]
      have m0 : ∀ y : AO, (h6.set 2 y)[0]? = some (.cells [I (Q : Int)] false) := fun y => by rw [List.getElem?_set_ne (by omega)]; exact n0
      have m1 : ∀ y : AO, (h6.set 2 y)[1]? = some (.cells [I B] false) := fun y => by rw [List.getElem?_set_ne (by omega)]; exact n1
      simp (disch := first | assumption | omega | (simp only [az]; done)) only [ru, eq_self, if_true, if_false, BEq.rfl, binI, AO.row?, splice, fillL, mmAll, loadV, storeV, zeros, Am.rowAt, Am.part, addOff, Nat.reduceAdd, Nat.reduceMul, Nat.reduceLeDiff, Nat.reduceSub, Nat.reduceLT, Int.reduceEq, Int.reduceLT, Int.reduceLE, Int.reduceGT, Int.reduceGE, Int.reduceAdd, Int.reduceSub, Int.reduceMul, Int.reduceNeg, Int.reduceToNat, reduceCtorEq, reduceIte, n0, n1, n2, n3, el, b1, tm, tq, fl, pu, dg, dgP_set hi, m0, m1]
      refine ⟨.busy, none, 129, TS, [13, 14], AS, BD, 5, ?_, ?_⟩
      · rw [List.getElem?_set_ne (by omega), List.getElem?_set_ne (by omega)]; exact n6
      · have l0 := (List.getElem?_eq_some_iff.1 n0).1
        have l2 := (List.getElem?_eq_some_iff.1 n2).1
        have l6' := (List.getElem?_eq_some_iff.1 n6).1
        refine ⟨?_, ?_, ?_, ?_, ?_, ?_, ?_⟩
        · rw [List.getElem?_set_ne (by omega), List.getElem?_set_self (by simpa using l0), hD, hQ, Nat.div_div_eq_div_mul, ← Nat.pow_succ, show (m - (i + 1)).succ = m - i by omega]
        · rw [List.getElem?_set_ne (by omega), List.getElem?_set_ne (by omega)]; exact m1 _
        · rw [List.getElem?_set_ne (by omega), List.getElem?_set_ne (by omega), List.getElem?_set_self l2]
        · rw [List.getElem?_set_ne (by omega), List.getElem?_set_ne (by omega), List.getElem?_set_ne (by omega)]; exact n3
        · rw [List.getElem?_set_ne (by omega), List.getElem?_set_ne (by omega), List.getElem?_set_ne (by omega)]; exact n4
        · rw [List.getElem?_set_ne (by omega), List.getElem?_set_ne (by omega), List.getElem?_set_ne (by omega)]; exact n5
        · rw [List.getElem?_set_self (by simpa using l6')]
    · refine ⟨?_, ?_, ?_, ?_, ?_, ?_, ?_⟩
      · rw [hH1, Nat.sub_self, Nat.pow_zero, Nat.div_one]; rfl
      · rw [hH1]; rfl
      · rw [hH1, dgP_all]
        rw [← zeros_flat]; rfl
      all_goals rw [hH1]; rfl
  obtain ⟨r, g', hr, rfl, hc⟩ := key
  have hv := viewB hc (st := false) (n := 7)
  simp only [Iso, hr]
  have : (dgL N B m).length = m := by simp [dgL]
  rw [this] at hv
  exact hv
end
end Go.Proofs.YtfagcnokdnanpaaGreat.S
