/-
The law of the salt of the parts.
-/
import Derived.Test.YtaffjmjahenoaaaRd
namespace Go.Proofs.Ytaffjmjahenoaaa.S
open Go Go.Am Go.Proofs.Ytaffjmjahenoaaa.T
set_option maxRecDepth 100000
set_option linter.unusedSimpArgs false
set_option linter.unusedVariables false

/-- a number more, into a place that is kept for it -/
theorem slot_app {keep : Bool} {p : Nat} {G : List AO} {l : AV} {row : List Int} {n : Int} (hl : (row = [] ∧ l = .nils) ∨ (row ≠ [] ∧ ∃ q sh, q ≠ p ∧ l = .ms 1 q 0 row.length ∧ G[q]? = some (.cells (row.flatMap intL) sh))) (hp : p < G.length) (hr : row.length ≤ 100) :
    ∃ G' sh, appG keep 0 p 1 8 G l (.cs 1 1 [I n]) = some (.ms 1 p 0 (row.length + 1), G') ∧ G'.length = G.length ∧ G'[p]? = some (.cells ((row ++ [n]).flatMap intL) sh) ∧ ∀ k, k ≠ p → (∀ q, l = .ms 1 q 0 row.length → k ≠ q) → G'[k]? = G[k]? := by
  have hx : Am.rowOf G (.cs 1 1 [I n]) = some [I n] := rfl
  rcases hl with ⟨rfl, rfl⟩ | ⟨h0, q, sh, hq, rfl, go⟩
  · refine ⟨_, false, appG_nil (n := 1) (by omega) rfl hx rfl rfl (by omega) (by omega), by simp, ?_, fun k hk _ => ?_⟩
    · rw [List.getElem?_set_self hp]; rfl
    · rw [List.getElem?_set_ne (by omega)]
  · have ev : appG keep 0 p 1 8 G (.ms 1 q 0 row.length) (.cs 1 1 [I n]) = some (.ms 1 p 0 (row.length + 1), (G.set q (if keep then .ro (row.flatMap intL) else .tomb)).set p (.cells (row.flatMap intL ++ [I n]) ((keep && row.length != 0) || sh))) := by
      have f1 : row.length * 1 = (row.flatMap intL).length := by rw [flat1]; omega
      have f2 : (row.length + 1) * 8 ≤ 140737488355328 := by omega
      have f3 : lenOf (.cs 1 1 [I n]) = some 1 := rfl
      have f4 : [I n].length = 1 * 1 := rfl
      have f5 : [I n].all AV.scalar = true := rfl
      simp only [appG, exOp, lenOf_ms, f3, hx, f4, f5, go, f1, if_true, if_false, and_self, true_and, true_or, newObj', Option.getD_some, List.take_length, Nat.mul_one, Nat.zero_le, Nat.succ_ne_zero, Nat.one_ne_zero, show (1 : Nat) ≤ 8 by omega, f2]
    refine ⟨_, ((keep && row.length != 0) || sh), ev, by simp, ?_, fun k hk hn => ?_⟩
    · rw [List.getElem?_set_self (by simpa using hp), List.flatMap_append]; rfl
    · rw [List.getElem?_set_ne (by omega), List.getElem?_set_ne (fun e => hn q rfl e.symm)]
theorem row_view {h : List AO} {p n : Nat} {l : List Int} {sh : Bool} (hp : h[p]? = some (.cells (l.flatMap intL) sh)) (st : Bool) : view st h (n + 1) (.ms 1 p 0 l.length) = some (slV 1 intL l) := by
  rw [view_ms, rowOf_ms]
  simp only [Am.rowAt, hp, Option.bind_some, AO.row?, List.drop_zero]
  rw [List.take_of_length_le (by rw [flat1]; omega), if_pos (by rw [flat1]; omega)]
  simp only [flat_view intIv, Option.map_some, slV]
/-- the lists of the ends, as they grow: not the same object -/
def EnH (h : List AO) (l u : AV) (L U : List Int) : Prop := (L = [] ∧ l = .nils ∧ U = [] ∧ u = .nils) ∨ (L ≠ [] ∧ U.length = L.length ∧ ∃ p q s s', 1 ≤ p ∧ 1 ≤ q ∧ p ≠ q ∧ l = .ms 1 p 0 L.length ∧ u = .ms 1 q 0 L.length ∧ h[p]? = some (.cells (L.flatMap intL) s) ∧ h[q]? = some (.cells (U.flatMap intL) s'))
theorem EnH.len {h : List AO} {l u : AV} {L U : List Int} (H : EnH h l u L U) : U.length = L.length := by
  rcases H with ⟨rfl, _, rfl, _⟩ | ⟨_, e, _⟩
  · rfl
  · exact e
/-- one more chamber -/
theorem enH_app {h : List AO} {l u : AV} {L U : List Int} (H : EnH h l u L U) (a b : Int) (hl : L.length ≤ 100) (h1 : 1 ≤ h.length) :
    ∃ G1 G2, appG true 0 h.length 1 8 (h ++ [.tomb, .tomb]) l (.cs 1 1 [I a]) = some (.ms 1 h.length 0 (L.length + 1), G1) ∧ G1.set (h.length + 1) .tomb = G1 ∧
      appG false 0 (h.length + 1) 1 8 G1 u (.cs 1 1 [I b]) = some (.ms 1 (h.length + 1) 0 (L.length + 1), G2) ∧ EnH G2 (.ms 1 h.length 0 (L.length + 1)) (.ms 1 (h.length + 1) 0 (L.length + 1)) (L ++ [a]) (U ++ [b]) ∧ h.length ≤ G2.length ∧
      (∀ k, k < h.length → (∀ p, l = .ms 1 p 0 L.length → k ≠ p) → G1[k]? = h[k]?) ∧ ∀ k, k < h.length → (∀ p, l = .ms 1 p 0 L.length → k ≠ p) → (∀ p, u = .ms 1 p 0 L.length → k ≠ p) → G2[k]? = h[k]? := by
  have el := H.len
  have gk : ∀ k, k < h.length → (h ++ [AO.tomb, AO.tomb])[k]? = h[k]? := fun k hk => at_ap hk
  have st1 : (L = [] ∧ l = .nils) ∨ (L ≠ [] ∧ ∃ q sh, q ≠ h.length ∧ l = .ms 1 q 0 L.length ∧ (h ++ [AO.tomb, AO.tomb])[q]? = some (.cells (L.flatMap intL) sh)) := by
    rcases H with ⟨e1, e2, _⟩ | ⟨e1, _, p, q, s, s', _, _, _, e3, _, hp, _⟩
    · exact .inl ⟨e1, e2⟩
    · have p2 := (List.getElem?_eq_some_iff.1 hp).1
      exact .inr ⟨e1, p, s, by omega, e3, by rw [gk p p2]; exact hp⟩
  obtain ⟨G1, s1, r1, l1, o1, f1⟩ := slot_app (keep := true) (p := h.length) (G := h ++ [.tomb, .tomb]) (n := a) st1 (by simp) hl
  have g1t : G1[h.length + 1]? = some .tomb := by
    rw [f1 (h.length + 1) (by omega) fun q e => ?_]
    · rw [atT]; rfl
    · rcases st1 with ⟨_, e2⟩ | ⟨_, q', sh, _, e2, hq⟩
      · rw [e2] at e; cases e
      · rw [e2] at e
        cases e
        intro e
        subst e
        rw [atT] at hq
        cases hq
  have l1' : G1.length = h.length + 2 := by rw [l1]; simp
  have st2 : (U = [] ∧ u = .nils) ∨ (U ≠ [] ∧ ∃ q sh, q ≠ h.length + 1 ∧ u = .ms 1 q 0 U.length ∧ G1[q]? = some (.cells (U.flatMap intL) sh)) := by
    rcases H with ⟨_, _, e1, e2⟩ | ⟨e1, _, p, q, s, s', _, _, pq, e3, e4, hp, hq⟩
    · exact .inl ⟨e1, e2⟩
    · have q2 := (List.getElem?_eq_some_iff.1 hq).1
      refine .inr ⟨fun e => e1 (List.eq_nil_of_length_eq_zero (by rw [← el, e]; rfl)), q, s', by omega, by rw [el]; exact e4, ?_⟩
      rw [f1 q (by omega) fun q' e => ?_, gk q q2]
      · exact hq
      · rw [e3] at e; cases e; exact fun e => pq e.symm
  obtain ⟨G2, s2, r2, l2, o2, f2⟩ := slot_app (keep := false) (p := h.length + 1) (G := G1) (n := b) st2 (by omega) (by omega)
  rw [el] at r2
  have g2l : G2[h.length]? = some (.cells ((L ++ [a]).flatMap intL) s1) := by
    rw [f2 h.length (by omega) fun q e => ?_]
    · exact o1
    · rcases st2 with ⟨_, e2⟩ | ⟨_, q', sh, _, e2, hq⟩
      · rw [e2] at e; cases e
      · rcases H with ⟨_, _, _, e5⟩ | ⟨e1, _, p, q9, s, s', _, _, pq, e3, e4, hp, hq9⟩
        · rw [e5] at e2; cases e2
        · have q2 := (List.getElem?_eq_some_iff.1 hq9).1
          rw [e4] at e
          simp only [AV.ms.injEq] at e
          omega
  refine ⟨G1, G2, r1, ?_, r2, .inr ⟨by simp, by simp [el], h.length, h.length + 1, s1, s2, h1, by omega, by omega, by simp, by simp, g2l, o2⟩, by omega, fun k hk hn => (f1 k (by omega) hn).trans (gk k hk), fun k hk hn hm => ?_⟩
  · apply List.ext_getElem?
    intro k
    by_cases e : k = h.length + 1
    · subst e
      rw [List.getElem?_set_self (by omega), g1t]
    · rw [List.getElem?_set_ne (by omega)]
  · rw [f2 k (by omega) fun q e => hm q (by rw [← el]; exact e), f1 k (by omega) hn, gk k hk]


theorem lin_rA {u : Nat → Int} {p : Nat} : ∀ {k : Nat}, lin (rA p) u k = if p < k then u p else 0
  | 0 => by simp [lin]
  | k + 1 => by
    simp only [lin, lin_rA (k := k), rA]
    by_cases e : k = p
    · subst e; rw [if_neg (by omega), if_pos rfl, if_pos (by omega)]; omega
    · rw [if_neg e]
      by_cases h : p < k
      · rw [if_pos h, if_pos (by omega)]; omega
      · rw [if_neg h, if_neg (by omega)]; omega
theorem mem_of_getD {l : List Int} {P : Int → Prop} (h : ∀ i, i < l.length → P (l.getD i 0)) : ∀ x ∈ l, P x := by
  intro x hx
  obtain ⟨i, hi, rfl⟩ := List.mem_iff_getElem.1 hx
  have := h i hi
  rwa [List.getD_eq_getElem?_getD, List.getElem?_eq_getElem hi] at this
/-- the ends of a weight, and the weight -/
theorem wgt_bd {t : List Pt} (T : TG t) (h1 : is1 t = true) {u : Nat → Int} (hu : TruF t u) {i : Nat} (hi : i < t.length) : 0 ≤ loV t (rA i) ∧ loV t (rA i) ≤ u i ∧ u i ≤ hiV t (rA i) ∧ hiV t (rA i) ≤ 30 := by
  have L := loV_spec (r := rA i) T h1
  have U := hiV_spec (r := rA i) T h1
  have l2 := L.2 u hu
  have u2 := U.2 u hu
  obtain ⟨a, ha, ea⟩ := L.1
  obtain ⟨b, hb, eb⟩ := U.1
  rw [lin_rA, if_pos hi] at l2 u2 ea eb
  have := (ha.1 i hi).1
  have := (hb.1 i hi).1
  omega

set_option maxHeartbeats 8000000 in
theorem sTop {t : List Pt} {v : AV} (TI : IsSl 6 Pt.e t v) {h : A.Hs} {k p b : AV} (HI : A.HsIn h k p b) {l : List Int} {w : AV} (W : IsSl 1 intL l w) :
    Iso E 3 [v, A.hsV h.fl k p b, w] false = some (Bo true) := by
  have KV := HI.k; have PV := HI.p; have BV := HI.b
  have d11 := sSalted
  have a6 := fun st => A.s15 HI st
  have a8 := fun st => A.s29 HI st
  simp only [A.hsV] at a6 a8
  refine Iso_of (es _ _ _ _) e3 ?_
  simp only [f3, A.hsV]
  by_cases c1 : (t.length : Int) > 40
  · simp (disch := first | assumption | omega | (simp only [az]; done)) only [ru, eq_self, if_true, if_false, BEq.rfl, binI, AO.row?, splice, fillL, mmAll, loadV, storeV, zeros, Am.rowAt, Am.part, addOff, Nat.reduceAdd, Nat.reduceMul, Nat.reduceLeDiff, Nat.reduceSub, Nat.reduceLT, Int.reduceEq, Int.reduceLT, Int.reduceLE, Int.reduceGT, Int.reduceGE, Int.reduceAdd, Int.reduceSub, Int.reduceMul, Int.reduceNeg, Int.reduceToNat, reduceCtorEq, reduceIte, lenV_sl TI, view_sl TI, scalar_sl TI, cells_sl TI, pure_sl TI, lenV_sl KV, view_sl KV, scalar_sl KV, cells_sl KV, pure_sl KV, lenV_sl PV, view_sl PV, scalar_sl PV, cells_sl PV, pure_sl PV, lenV_sl BV, view_sl BV, scalar_sl BV, cells_sl BV, pure_sl BV, lenV_sl W, view_sl W, scalar_sl W, cells_sl W, pure_sl W, c1, d11, gUn, decide_true]
    done
  have H : TbOk t v := ⟨TI, by omega⟩
  have a4 := fun st => s53 H st
  cases hv : tval t
  · simp (disch := first | assumption | omega | (simp only [az]; done)) only [ru, eq_self, if_true, if_false, BEq.rfl, binI, AO.row?, splice, fillL, mmAll, loadV, storeV, zeros, Am.rowAt, Am.part, addOff, Nat.reduceAdd, Nat.reduceMul, Nat.reduceLeDiff, Nat.reduceSub, Nat.reduceLT, Int.reduceEq, Int.reduceLT, Int.reduceLE, Int.reduceGT, Int.reduceGE, Int.reduceAdd, Int.reduceSub, Int.reduceMul, Int.reduceNeg, Int.reduceToNat, reduceCtorEq, reduceIte, lenV_sl TI, view_sl TI, scalar_sl TI, cells_sl TI, pure_sl TI, lenV_sl KV, view_sl KV, scalar_sl KV, cells_sl KV, pure_sl KV, lenV_sl PV, view_sl PV, scalar_sl PV, cells_sl PV, pure_sl PV, lenV_sl BV, view_sl BV, scalar_sl BV, cells_sl BV, pure_sl BV, lenV_sl W, view_sl W, scalar_sl W, cells_sl W, pure_sl W, c1, a4, hv, d11, gUn, decide_true, decide_false, Bool.false_eq_true]
    done
  have T := tval_W hv
  have n8 := T.n
  by_cases c2 : (l.length : Int) > 40
  · simp (disch := first | assumption | omega | (simp only [az]; done)) only [ru, eq_self, if_true, if_false, BEq.rfl, binI, AO.row?, splice, fillL, mmAll, loadV, storeV, zeros, Am.rowAt, Am.part, addOff, Nat.reduceAdd, Nat.reduceMul, Nat.reduceLeDiff, Nat.reduceSub, Nat.reduceLT, Int.reduceEq, Int.reduceLT, Int.reduceLE, Int.reduceGT, Int.reduceGE, Int.reduceAdd, Int.reduceSub, Int.reduceMul, Int.reduceNeg, Int.reduceToNat, reduceCtorEq, reduceIte, lenV_sl TI, view_sl TI, scalar_sl TI, cells_sl TI, pure_sl TI, lenV_sl KV, view_sl KV, scalar_sl KV, cells_sl KV, pure_sl KV, lenV_sl PV, view_sl PV, scalar_sl PV, cells_sl PV, pure_sl PV, lenV_sl BV, view_sl BV, scalar_sl BV, cells_sl BV, pure_sl BV, lenV_sl W, view_sl W, scalar_sl W, cells_sl W, pure_sl W, c1, a4, hv, c2, d11, gUn, decide_true, decide_false]
    done
  have a5 := fun st => s17 H T W st
  cases ht : truB t l
  · simp (disch := first | assumption | omega | (simp only [az]; done)) only [ru, eq_self, if_true, if_false, BEq.rfl, binI, AO.row?, splice, fillL, mmAll, loadV, storeV, zeros, Am.rowAt, Am.part, addOff, Nat.reduceAdd, Nat.reduceMul, Nat.reduceLeDiff, Nat.reduceSub, Nat.reduceLT, Int.reduceEq, Int.reduceLT, Int.reduceLE, Int.reduceGT, Int.reduceGE, Int.reduceAdd, Int.reduceSub, Int.reduceMul, Int.reduceNeg, Int.reduceToNat, reduceCtorEq, reduceIte, lenV_sl TI, view_sl TI, scalar_sl TI, cells_sl TI, pure_sl TI, lenV_sl KV, view_sl KV, scalar_sl KV, cells_sl KV, pure_sl KV, lenV_sl PV, view_sl PV, scalar_sl PV, cells_sl PV, pure_sl PV, lenV_sl BV, view_sl BV, scalar_sl BV, cells_sl BV, pure_sl BV, lenV_sl W, view_sl W, scalar_sl W, cells_sl W, pure_sl W, c1, a4, hv, c2, a5, ht, d11, gUn, decide_true, decide_false, Bool.not_false]
    done
  cases hh : h.huge
  case true =>
    simp (disch := first | assumption | omega | (simp only [az]; done)) only [ru, eq_self, if_true, if_false, BEq.rfl, binI, AO.row?, splice, fillL, mmAll, loadV, storeV, zeros, Am.rowAt, Am.part, addOff, Nat.reduceAdd, Nat.reduceMul, Nat.reduceLeDiff, Nat.reduceSub, Nat.reduceLT, Int.reduceEq, Int.reduceLT, Int.reduceLE, Int.reduceGT, Int.reduceGE, Int.reduceAdd, Int.reduceSub, Int.reduceMul, Int.reduceNeg, Int.reduceToNat, reduceCtorEq, reduceIte, lenV_sl TI, view_sl TI, scalar_sl TI, cells_sl TI, pure_sl TI, lenV_sl KV, view_sl KV, scalar_sl KV, cells_sl KV, pure_sl KV, lenV_sl PV, view_sl PV, scalar_sl PV, cells_sl PV, pure_sl PV, lenV_sl BV, view_sl BV, scalar_sl BV, cells_sl BV, pure_sl BV, lenV_sl W, view_sl W, scalar_sl W, cells_sl W, pure_sl W, c1, a4, hv, c2, a5, ht, a6, hh, d11, gUn, decide_true, decide_false, Bool.not_true]
    done
  have HO := A.huge_ok HI hh
  have a7 := fun st => A.s20 HO st
  simp only [A.hsV] at a7
  cases hva : h.valid
  · simp only [hva, A.vE, Bool.false_eq_true, if_false] at a7
    simp (disch := first | assumption | omega | (simp only [az]; done)) only [ru, eq_self, if_true, if_false, BEq.rfl, binI, AO.row?, splice, fillL, mmAll, loadV, storeV, zeros, Am.rowAt, Am.part, addOff, Nat.reduceAdd, Nat.reduceMul, Nat.reduceLeDiff, Nat.reduceSub, Nat.reduceLT, Int.reduceEq, Int.reduceLT, Int.reduceLE, Int.reduceGT, Int.reduceGE, Int.reduceAdd, Int.reduceSub, Int.reduceMul, Int.reduceNeg, Int.reduceToNat, reduceCtorEq, reduceIte, lenV_sl TI, view_sl TI, scalar_sl TI, cells_sl TI, pure_sl TI, lenV_sl KV, view_sl KV, scalar_sl KV, cells_sl KV, pure_sl KV, lenV_sl PV, view_sl PV, scalar_sl PV, cells_sl PV, pure_sl PV, lenV_sl BV, view_sl BV, scalar_sl BV, cells_sl BV, pure_sl BV, lenV_sl W, view_sl W, scalar_sl W, cells_sl W, pure_sl W, c1, a4, hv, c2, a5, ht, a6, hh, a7, d11, gUn, decide_true, decide_false, Bool.not_true]
    done
  simp only [hva, A.vE, if_true] at a7
  cases hf : h.far
  case true =>
    simp (disch := first | assumption | omega | (simp only [az]; done)) only [ru, eq_self, if_true, if_false, BEq.rfl, binI, AO.row?, splice, fillL, mmAll, loadV, storeV, zeros, Am.rowAt, Am.part, addOff, Nat.reduceAdd, Nat.reduceMul, Nat.reduceLeDiff, Nat.reduceSub, Nat.reduceLT, Int.reduceEq, Int.reduceLT, Int.reduceLE, Int.reduceGT, Int.reduceGE, Int.reduceAdd, Int.reduceSub, Int.reduceMul, Int.reduceNeg, Int.reduceToNat, reduceCtorEq, reduceIte, lenV_sl TI, view_sl TI, scalar_sl TI, cells_sl TI, pure_sl TI, lenV_sl KV, view_sl KV, scalar_sl KV, cells_sl KV, pure_sl KV, lenV_sl PV, view_sl PV, scalar_sl PV, cells_sl PV, pure_sl PV, lenV_sl BV, view_sl BV, scalar_sl BV, cells_sl BV, pure_sl BV, lenV_sl W, view_sl W, scalar_sl W, cells_sl W, pure_sl W, c1, a4, hv, c2, a5, ht, a6, hh, a7, a8, hf, d11, gUn, decide_true, decide_false, Bool.not_true]
    done
  have G := A.valid_iff.1 hva
  obtain ⟨ll, tr⟩ := (truB_iff T).1 ht
  have h1 : is1 t = true := (is1_iff T.toTG).2 ⟨_, tr⟩
  have wb := fun i hi => wgt_bd T.toTG h1 tr (i := i) hi
  simp (disch := first | assumption | omega | (simp only [az]; done)) only [ru, eq_self, if_true, if_false, BEq.rfl, binI, AO.row?, splice, fillL, mmAll, loadV, storeV, zeros, Am.rowAt, Am.part, addOff, Nat.reduceAdd, Nat.reduceMul, Nat.reduceLeDiff, Nat.reduceSub, Nat.reduceLT, Int.reduceEq, Int.reduceLT, Int.reduceLE, Int.reduceGT, Int.reduceGE, Int.reduceAdd, Int.reduceSub, Int.reduceMul, Int.reduceNeg, Int.reduceToNat, reduceCtorEq, reduceIte, lenV_sl TI, view_sl TI, scalar_sl TI, cells_sl TI, pure_sl TI, lenV_sl KV, view_sl KV, scalar_sl KV, cells_sl KV, pure_sl KV, lenV_sl PV, view_sl PV, scalar_sl PV, cells_sl PV, pure_sl PV, lenV_sl BV, view_sl BV, scalar_sl BV, cells_sl BV, pure_sl BV, lenV_sl W, view_sl W, scalar_sl W, cells_sl W, pure_sl W, c1, a4, hv, c2, a5, ht, a6, hh, a7, a8, hf, gUn, decide_true, decide_false, Bool.not_true]
  refine G_loop_ind (fun z ts hk mk => ∃ (c : Nat) (x y : AV) (L U : List Int), c ≤ t.length ∧ z = t.length - c ∧ ts.length = 116 ∧ ts.getD 0 .undef = v ∧ ts.getD 2 .undef = w ∧ ts.getD 4 .undef = .ptr 0 0 ∧ ts.getD 7 .undef = x ∧ ts.getD 8 .undef = y ∧ ts.getD 9 .undef = I c ∧
    1 ≤ hk.length ∧ hk[0]? = some (.cells [k, I h.fl, p, b] false) ∧ EnH hk x y L U ∧ L.length = c ∧ (∀ k, k < c → 0 ≤ L.getD k 0 ∧ L.getD k 0 ≤ l.getD k 0 ∧ l.getD k 0 ≤ U.getD k 0 ∧ U.getD k 0 ≤ 30) ∧ mk = []) ?_ _ _ _ _
    ⟨0, .nils, .nils, [], [], Nat.zero_le _, rfl, rfl, rfl, rfl, rfl, rfl, rfl, rfl, by simp, rfl, .inl ⟨rfl, rfl, rfl, rfl⟩, rfl, fun k hk => absurd hk (by omega), rfl⟩
  rintro z ts hk mk ih ⟨c, x, y, L, U, hc, rfl, hll, q0, q2, q4, q7, q8, q9, hg, k0, HE, hL, hX, rfl⟩
  rw [lit_all hll]
  simp only [lit0, litS, Nat.reduceAdd, q0, q2, q4, q7, q8, q9]
  simp (disch := first | assumption | omega | (simp only [az]; done)) only [ru, eq_self, if_true, if_false, BEq.rfl, binI, AO.row?, splice, fillL, mmAll, loadV, storeV, zeros, Am.rowAt, Am.part, addOff, Nat.reduceAdd, Nat.reduceMul, Nat.reduceLeDiff, Nat.reduceSub, Nat.reduceLT, Int.reduceEq, Int.reduceLT, Int.reduceLE, Int.reduceGT, Int.reduceGE, Int.reduceAdd, Int.reduceSub, Int.reduceMul, Int.reduceNeg, Int.reduceToNat, reduceCtorEq, reduceIte, lenV_sl TI, view_sl TI, scalar_sl TI, cells_sl TI, pure_sl TI]
  by_cases hlt : (c : Int) < t.length
  case pos =>
    have hc2 : c < t.length := by omega
    have kJ : ∀ J, (hk ++ J)[0]? = some (.cells [k, I h.fl, p, b] false) := fun J => by rw [at_ap (by omega)]; exact k0
    have c32 := fun st => s32 H (c : Int) st
    simp only [askR, hv, inR_iff.2 (show (0 : Int) ≤ (c : Int) ∧ (c : Int) ≤ t.length - 1 by omega), if_true, Int.toNat_natCast, btw, h1] at c32
    have bd := wb c hc2
    have ew := elem_sl (enc := intL) intE W (c : Int) (by omega) (by omega)
    simp only [Int.toNat_natCast] at ew
    have ez : l.getD c default = l.getD c 0 := rfl
    rw [ez] at ew
    obtain ⟨lo, hlo⟩ : ∃ x, x = loV t (rA c) := ⟨_, rfl⟩
    obtain ⟨hi', hhi⟩ : ∃ x, x = hiV t (rA c) := ⟨_, rfl⟩
    obtain ⟨e, he⟩ : ∃ x, x = l.getD c 0 := ⟨_, rfl⟩
    simp only [fu, ← hlo, ← hhi, ← he] at bd c32 ew
    have n1 : ¬ lo < 0 := by omega
    have n3 : ¬ hi' > 30 := by omega
    have n4 : ¬ e < lo := by omega
    have n5 : ¬ e > hi' := by omega
    obtain ⟨H1, hH1⟩ : ∃ H1 : List AO, H1 = hk ++ [AO.cells [I lo, I hi'] false] := ⟨_, rfl⟩
    have l1 : H1.length = hk.length + 1 := by rw [hH1]; simp
    have g0 : H1[0]? = some (.cells [k, I h.fl, p, b] false) := by rw [hH1]; exact kJ _
    have gs : H1[hk.length]? = some (.cells [I lo, I hi'] false) := by rw [hH1, atT0]; rfl
    have gsJ : ∀ J, (H1 ++ J)[hk.length]? = some (.cells [I lo, I hi'] false) := fun J => by rw [at_ap (by omega)]; exact gs
    have HE1 : EnH H1 x y L U := by
      rcases HE with h | ⟨e1, e2, p, q, s, s', p1, q1', pq, e3, e4, hp, hq⟩
      · exact .inl h
      · have p2 := (List.getElem?_eq_some_iff.1 hp).1
        have q2 := (List.getElem?_eq_some_iff.1 hq).1
        exact .inr ⟨e1, e2, p, q, s, s', p1, q1', pq, e3, e4, by rw [hH1, at_ap p2]; exact hp, by rw [hH1, at_ap q2]; exact hq⟩
    refine (enH_app HE1 lo hi' (by omega) (by omega)).elim fun G1 h9 => h9.elim fun G2 h9 => ?_
    have a1 := h9.1
    have a2 := h9.2.1
    have a3 := h9.2.2.1
    have a4' := h9.2.2.2.1
    have a5' := h9.2.2.2.2.1
    have a6' := h9.2.2.2.2.2.1
    have a7' := h9.2.2.2.2.2.2
    clear h9
    have npl : ∀ p, x = .ms 1 p 0 L.length → 1 ≤ p ∧ p < hk.length := fun p e => by
      rcases HE with ⟨_, e1, _⟩ | ⟨_, _, p', q', s, s', h1, h2, _, e3, e4, hp, hq⟩
      · rw [e1] at e; cases e
      · have p2 := (List.getElem?_eq_some_iff.1 hp).1
        rw [e3] at e
        simp only [AV.ms.injEq] at e
        omega
    have npu : ∀ p, y = .ms 1 p 0 L.length → 1 ≤ p ∧ p < hk.length := fun p e => by
      rcases HE with ⟨_, _, _, e1⟩ | ⟨_, _, p', q', s, s', h1, h2, _, e3, e4, hp, hq⟩
      · rw [e1] at e; cases e
      · have q2 := (List.getElem?_eq_some_iff.1 hq).1
        rw [e4] at e
        simp only [AV.ms.injEq] at e
        omega
    have gs1 : (G1.set H1.length AO.tomb)[hk.length]? = some (.cells [I lo, I hi'] false) := by
      rw [List.getElem?_set_ne (by omega), a6' hk.length (by omega) fun p e => by have := npl p e; omega]
      exact gs
    have g20 : G2[0]? = some (.cells [k, I h.fl, p, b] false) := by
      rw [a7' 0 (by omega) (fun p e => by have := npl p e; omega) (fun p e => by have := npu p e; omega)]
      exact g0
    simp (disch := first | assumption | omega | (simp only [az]; done)) only [ru, eq_self, if_true, if_false, BEq.rfl, binI, AO.row?, splice, fillL, mmAll, loadV, storeV, zeros, Am.rowAt, Am.part, addOff, Nat.reduceAdd, Nat.reduceMul, Nat.reduceLeDiff, Nat.reduceSub, Nat.reduceLT, Int.reduceEq, Int.reduceLT, Int.reduceLE, Int.reduceGT, Int.reduceGE, Int.reduceAdd, Int.reduceSub, Int.reduceMul, Int.reduceNeg, Int.reduceToNat, reduceCtorEq, reduceIte, lenV_sl TI, view_sl TI, scalar_sl TI, cells_sl TI, pure_sl TI, lenV_sl W, view_sl W, scalar_sl W, cells_sl W, pure_sl W, hlt, c32, ew, n1, n3, n4, n5, gUn, lenE, setT, setT0, atT, atT0, getT, getT0, Nat.add_assoc, decide_true, decide_false, bne_self_eq_false]
    rw [← hH1]
    have m1 : hk.length + 1 = H1.length := by omega
    have m2 : hk.length + 2 = H1.length + 1 := by omega
    simp (disch := first | assumption | omega | (simp only [az]; done)) only [ru, eq_self, if_true, if_false, BEq.rfl, binI, AO.row?, splice, fillL, mmAll, loadV, storeV, zeros, Am.rowAt, Am.part, addOff, Nat.reduceAdd, Nat.reduceMul, Nat.reduceLeDiff, Nat.reduceSub, Nat.reduceLT, Int.reduceEq, Int.reduceLT, Int.reduceLE, Int.reduceGT, Int.reduceGE, Int.reduceAdd, Int.reduceSub, Int.reduceMul, Int.reduceNeg, Int.reduceToNat, reduceCtorEq, reduceIte, m1, m2, lenV_sl W, view_sl W, scalar_sl W, cells_sl W, pure_sl W, ew, gs, gsJ, gs1, n1, n3, n4, n5, gUn, GO_mapp, hide, unhN, unhC, List.foldl_cons, List.foldl_nil, List.append_assoc, lenE, setT, setT0, atT, atT0, getT, getT0, Nat.add_assoc, a1, a2, a3, decide_true, decide_false, bne_self_eq_false]
    refine ih (t.length - (c + 1)) _ _ _ (by omega) ⟨c + 1, _, _, L ++ [lo], U ++ [hi'], by omega, rfl, rfl, rfl, rfl, rfl, rfl, rfl, rfl, by omega, g20, a4', by simp [hL], fun k hk' => ?_, rfl⟩
    have lU := HE.len
    by_cases e' : k = c
    · subst e'
      have e1 : (L ++ [lo]).getD k 0 = lo := by rw [List.getD_eq_getElem?_getD, List.getElem?_append_right (by omega), hL, Nat.sub_self]; rfl
      have e2 : (U ++ [hi']).getD k 0 = hi' := by rw [List.getD_eq_getElem?_getD, List.getElem?_append_right (by omega), lU, hL, Nat.sub_self]; rfl
      rw [e1, e2, ← he]
      exact bd
    · have e1 : (L ++ [lo]).getD k 0 = L.getD k 0 := by rw [List.getD_eq_getElem?_getD, List.getElem?_append_left (by omega), ← List.getD_eq_getElem?_getD]
      have e2 : (U ++ [hi']).getD k 0 = U.getD k 0 := by rw [List.getD_eq_getElem?_getD, List.getElem?_append_left (by omega), ← List.getD_eq_getElem?_getD]
      rw [e1, e2]
      exact hX k (by omega)
  have hct : c = t.length := by omega
  have lU := HE.len
  have bL : ∀ z ∈ L, 0 ≤ z ∧ z ≤ 30 := mem_of_getD (P := fun z => 0 ≤ z ∧ z ≤ 30) fun i hi => by have := hX i (by omega); omega
  have bl : ∀ z ∈ l, 0 ≤ z ∧ z ≤ 30 := mem_of_getD (P := fun z => 0 ≤ z ∧ z ≤ 30) fun i hi => by have := hX i (by omega); omega
  have bU : ∀ z ∈ U, 0 ≤ z ∧ z ≤ 30 := mem_of_getD (P := fun z => 0 ≤ z ∧ z ≤ 30) fun i hi => by have := hX i (by omega); omega
  have i1 := A.ly_li G (ws := L) (vs := l) (by omega) fun i hi => by have := hX i (by omega); omega
  have i2 := A.ly_li G (ws := l) (vs := U) (by omega) fun i hi => by have := hX i (by omega); omega
  have GL := A.ly_G G bL
  have Gl := A.ly_G G bl
  have GU := A.ly_G G bU
  have ok : ∀ ws : List Int, A.HsOk (h.ly ws) (A.slV 2 A.Kd.e h.ks) (A.slV 2 A.Pr.e (A.lay h.ps ws)) (A.slV 1 A.intL h.bs) := fun ws => { k := A.slV_is, p := A.slV_is, b := A.slV_is, nk := HO.nk, np := by show (A.lay h.ps ws).length ≤ 41; rw [A.lay_len]; exact HO.np, nb := HO.nb }
  have o1 := A.sLighter (ok L) (ok l) GL Gl i1
  have o2 := A.sLighter (ok l) (ok U) Gl GU i2
  have m2 := fun st => A.sLaid HO W (by omega) st
  obtain ⟨kv, hkv⟩ : ∃ v, v = A.slV 2 A.Kd.e h.ks := ⟨_, rfl⟩
  obtain ⟨p1, hp1⟩ : ∃ v, v = A.slV 2 A.Pr.e (A.lay h.ps L) := ⟨_, rfl⟩
  obtain ⟨p2, hp2⟩ : ∃ v, v = A.slV 2 A.Pr.e (A.lay h.ps l) := ⟨_, rfl⟩
  obtain ⟨p3, hp3⟩ : ∃ v, v = A.slV 2 A.Pr.e (A.lay h.ps U) := ⟨_, rfl⟩
  obtain ⟨bv, hbv⟩ : ∃ v, v = A.slV 1 A.intL h.bs := ⟨_, rfl⟩
  have K1 : IsSl 2 A.Kd.e h.ks kv := by rw [hkv]; exact A.slV_is
  have P1 : IsSl 2 A.Pr.e (A.lay h.ps L) p1 := by rw [hp1]; exact A.slV_is
  have P2 : IsSl 2 A.Pr.e (A.lay h.ps l) p2 := by rw [hp2]; exact A.slV_is
  have P3 : IsSl 2 A.Pr.e (A.lay h.ps U) p3 := by rw [hp3]; exact A.slV_is
  have B1 : IsSl 1 A.intL h.bs bv := by rw [hbv]; exact A.slV_is
  have f1 : ∀ ws, (h.ly ws).fl = h.fl := fun ws => rfl
  have f2 : ∀ ws, (h.ly ws).ks = h.ks := fun ws => rfl
  have f3' : ∀ ws, (h.ly ws).ps = A.lay h.ps ws := fun ws => rfl
  have f4' : ∀ ws, (h.ly ws).bs = h.bs := fun ws => rfl
  simp only [A.hsV, A.cpV, f1, f2, f3', f4', ← hkv, ← hp1, ← hp2, ← hp3, ← hbv] at o1 o2 m2
  rcases HE with ⟨rfl, rfl, rfl, rfl⟩ | ⟨ne, _, pp, qq, s, s', g1, g2, _, rfl, rfl, hp, hq⟩
  · have VN : IsSl 1 A.intL [] .nils := .inr ⟨rfl, rfl⟩
    have m1 := fun st => A.sLaid HO VN (by simp) st
    have e13 : p3 = p1 := by rw [hp1, hp3]
    rw [e13] at o2
    simp only [A.hsV, A.cpV, f1, f2, f3', f4', ← hkv, ← hp1, ← hp2, ← hp3, ← hbv] at m1
    simp (disch := first | assumption | omega | (simp only [az]; done)) only [ru, eq_self, if_true, if_false, BEq.rfl, binI, AO.row?, splice, fillL, mmAll, loadV, storeV, zeros, Am.rowAt, Am.part, addOff, Nat.reduceAdd, Nat.reduceMul, Nat.reduceLeDiff, Nat.reduceSub, Nat.reduceLT, Int.reduceEq, Int.reduceLT, Int.reduceLE, Int.reduceGT, Int.reduceGE, Int.reduceAdd, Int.reduceSub, Int.reduceMul, Int.reduceNeg, Int.reduceToNat, reduceCtorEq, reduceIte, lenV_sl TI, view_sl TI, scalar_sl TI, cells_sl TI, pure_sl TI, lenV_sl KV, view_sl KV, scalar_sl KV, cells_sl KV, pure_sl KV, lenV_sl PV, view_sl PV, scalar_sl PV, cells_sl PV, pure_sl PV, lenV_sl BV, view_sl BV, scalar_sl BV, cells_sl BV, pure_sl BV, lenV_sl W, view_sl W, scalar_sl W, cells_sl W, pure_sl W, lenV_sl K1, view_sl K1, scalar_sl K1, cells_sl K1, pure_sl K1, lenV_sl P1, view_sl P1, scalar_sl P1, cells_sl P1, pure_sl P1, lenV_sl P2, view_sl P2, scalar_sl P2, cells_sl P2, pure_sl P2, lenV_sl P3, view_sl P3, scalar_sl P3, cells_sl P3, pure_sl P3, lenV_sl B1, view_sl B1, scalar_sl B1, cells_sl B1, pure_sl B1, hlt, k0, m1, m2, o1, o2, d11, gUn, decide_true, decide_false]
    done
  · have ly1 : L.length ≤ 1000 := by omega
    have ly2 : U.length ≤ 1000 := by omega
    obtain ⟨lv, hlv⟩ : ∃ v, v = slV 1 intL L := ⟨_, rfl⟩
    obtain ⟨uv, huv⟩ : ∃ v, v = slV 1 intL U := ⟨_, rfl⟩
    have LV : IsSl 1 intL L lv := by rw [hlv]; exact slV_is
    have UV : IsSl 1 intL U uv := by rw [huv]; exact slV_is
    have m1 := fun st => A.sLaid HO LV ly1 st
    have m3 := fun st => A.sLaid HO UV ly2 st
    have v1 := fun st => row_view (n := 7) hp st
    have v3 := fun st => row_view (n := 7) hq st
    rw [lU] at v3
    rw [← hlv] at v1
    rw [← huv] at v3
    simp only [A.hsV, A.cpV, f1, f2, f3', f4', ← hkv, ← hp1, ← hp2, ← hp3, ← hbv] at m1 m3
    simp (disch := first | assumption | omega | (simp only [az]; done)) only [ru, eq_self, if_true, if_false, BEq.rfl, binI, AO.row?, splice, fillL, mmAll, loadV, storeV, zeros, Am.rowAt, Am.part, addOff, Nat.reduceAdd, Nat.reduceMul, Nat.reduceLeDiff, Nat.reduceSub, Nat.reduceLT, Int.reduceEq, Int.reduceLT, Int.reduceLE, Int.reduceGT, Int.reduceGE, Int.reduceAdd, Int.reduceSub, Int.reduceMul, Int.reduceNeg, Int.reduceToNat, reduceCtorEq, reduceIte, lenV_sl TI, view_sl TI, scalar_sl TI, cells_sl TI, pure_sl TI, lenV_sl KV, view_sl KV, scalar_sl KV, cells_sl KV, pure_sl KV, lenV_sl PV, view_sl PV, scalar_sl PV, cells_sl PV, pure_sl PV, lenV_sl BV, view_sl BV, scalar_sl BV, cells_sl BV, pure_sl BV, lenV_sl W, view_sl W, scalar_sl W, cells_sl W, pure_sl W, lenV_sl K1, view_sl K1, scalar_sl K1, cells_sl K1, pure_sl K1, lenV_sl P1, view_sl P1, scalar_sl P1, cells_sl P1, pure_sl P1, lenV_sl P2, view_sl P2, scalar_sl P2, cells_sl P2, pure_sl P2, lenV_sl P3, view_sl P3, scalar_sl P3, cells_sl P3, pure_sl P3, lenV_sl B1, view_sl B1, scalar_sl B1, cells_sl B1, pure_sl B1, lenV_sl LV, view_sl LV, scalar_sl LV, cells_sl LV, pure_sl LV, lenV_sl UV, view_sl UV, scalar_sl UV, cells_sl UV, pure_sl UV, v1, v3, hlt, k0, m1, m2, m3, o1, o2, d11, gUn, decide_true, decide_false]
    done
end Go.Proofs.Ytaffjmjahenoaaa.S
