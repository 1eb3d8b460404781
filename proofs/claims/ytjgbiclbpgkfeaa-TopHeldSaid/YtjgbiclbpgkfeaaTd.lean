/-
The least and the greatest numbers of all chambers at a time.
-/
import Derived.Test.YtjgbiclbpgkfeaaC2
namespace Go.Proofs.Ytjgbiclbpgkfeaa.S
open Go Go.Am Go.Proofs.Ytjgbiclbpgkfeaa.T
set_option maxRecDepth 100000
set_option linter.unusedSimpArgs false
set_option linter.unusedVariables false

/-- a number more, into a place that is kept for it -/
theorem slot_app {keep : Bool} {p : Nat} {G : List AO} {l : AV} {row : List Int} {n : Int} (hl : (row = [] ∧ l = .nils) ∨ (row ≠ [] ∧ ∃ q sh, q ≠ p ∧ l = .ms 1 q 0 row.length ∧ G[q]? = some (.cells (row.flatMap intL) sh))) (hp : p < G.length) (hr : row.length ≤ 100) :
    ∃ G' sh, appG keep 0 p 1 8 G l (.cs 1 1 [I n]) = some (.ms 1 p 0 (row.length + 1), G') ∧ G'.length = G.length ∧ G'[p]? = some (.cells ((row ++ [n]).flatMap intL) sh) ∧ ∀ k, k ≠ p → (∀ q, l = .ms 1 q 0 row.length → k ≠ q) → G'[k]? = G[k]? := by
  have hx : Am.rowOf G (.cs 1 1 [I n]) = some [I n] := rfl
  rcases hl with ⟨rfl, rfl⟩ | ⟨h0, q, sh, hq, rfl, go⟩
  · refine ⟨_, false, appG_nil (n := 1) (by omega) rfl hx rfl rfl (by omega) (by omega), by simp, ?_, fun k hk _ => ?_⟩
    · rw [List.getElem?_set_self hp]; rfl
    · rw [List.getElem?_set_ne (by omega)]
  · have ev : appG keep 0 p 1 8 G (.ms 1 q 0 row.length) (.cs 1 1 [I n]) = some (.ms 1 p 0 (row.length + 1), (G.set q (if keep then .ro (row.flatMap intL) else .tomb)).set p (.cells (row.flatMap intL ++ [I n]) ((keep && row.length != 0) || sh))) := by
      have f1 : row.length * 1 = (row.flatMap intL).length := by rw [flat1]; omega
      have f2 : (row.length + 1) * 8 ≤ 140737488355328 := by omega
      have f3 : lenOf (.cs 1 1 [I n]) = some 1 := rfl
      have f4 : [I n].length = 1 * 1 := rfl
      have f5 : [I n].all AV.scalar = true := rfl
      simp only [appG, exOp, lenOf_ms, f3, hx, f4, f5, go, f1, if_true, if_false, and_self, true_and, true_or, newObj', Option.getD_some, List.take_length, Nat.mul_one, Nat.zero_le, Nat.succ_ne_zero, Nat.one_ne_zero, show (1 : Nat) ≤ 8 by omega, f2]
    refine ⟨_, ((keep && row.length != 0) || sh), ev, by simp, ?_, fun k hk hn => ?_⟩
    · rw [List.getElem?_set_self (by simpa using hp), List.flatMap_append]; rfl
    · rw [List.getElem?_set_ne (by omega), List.getElem?_set_ne (fun e => hn q rfl e.symm)]
theorem row_view {h : List AO} {p n : Nat} {l : List Int} {sh : Bool} (hp : h[p]? = some (.cells (l.flatMap intL) sh)) (st : Bool) : view st h (n + 1) (.ms 1 p 0 l.length) = some (slV 1 intL l) := by
  rw [view_ms, rowOf_ms]
  simp only [Am.rowAt, hp, Option.bind_some, AO.row?, List.drop_zero]
  rw [List.take_of_length_le (by rw [flat1]; omega), if_pos (by rw [flat1]; omega)]
  simp only [ints_view, Option.map_some, slV]
/-- the lists of the ends, as they grow: not the same object -/
def EnH (h : List AO) (l u : AV) (L U : List Int) : Prop := (L = [] ∧ l = .nils ∧ U = [] ∧ u = .nils) ∨ (L ≠ [] ∧ U.length = L.length ∧ ∃ p q s s', 1 ≤ p ∧ 1 ≤ q ∧ p ≠ q ∧ l = .ms 1 p 0 L.length ∧ u = .ms 1 q 0 L.length ∧ h[p]? = some (.cells (L.flatMap intL) s) ∧ h[q]? = some (.cells (U.flatMap intL) s'))
theorem EnH.len {h : List AO} {l u : AV} {L U : List Int} (H : EnH h l u L U) : U.length = L.length := by
  rcases H with ⟨rfl, _, rfl, _⟩ | ⟨_, e, _⟩
  · rfl
  · exact e
/-- one more chamber -/
theorem enH_app {h : List AO} {l u : AV} {L U : List Int} (H : EnH h l u L U) (a b : Int) (hl : L.length ≤ 100) (h1 : 1 ≤ h.length) :
    ∃ G1 G2, appG true 0 h.length 1 8 (h ++ [.tomb, .tomb]) l (.cs 1 1 [I a]) = some (.ms 1 h.length 0 (L.length + 1), G1) ∧ G1.set (h.length + 1) .tomb = G1 ∧
      appG false 0 (h.length + 1) 1 8 G1 u (.cs 1 1 [I b]) = some (.ms 1 (h.length + 1) 0 (L.length + 1), G2) ∧ EnH G2 (.ms 1 h.length 0 (L.length + 1)) (.ms 1 (h.length + 1) 0 (L.length + 1)) (L ++ [a]) (U ++ [b]) ∧ h.length ≤ G2.length ∧
      (∀ k, k < h.length → (∀ p, l = .ms 1 p 0 L.length → k ≠ p) → G1[k]? = h[k]?) ∧ ∀ k, k < h.length → (∀ p, l = .ms 1 p 0 L.length → k ≠ p) → (∀ p, u = .ms 1 p 0 L.length → k ≠ p) → G2[k]? = h[k]? := by
  have el := H.len
  have gk : ∀ k, k < h.length → (h ++ [AO.tomb, AO.tomb])[k]? = h[k]? := fun k hk => at_ap hk
  have st1 : (L = [] ∧ l = .nils) ∨ (L ≠ [] ∧ ∃ q sh, q ≠ h.length ∧ l = .ms 1 q 0 L.length ∧ (h ++ [AO.tomb, AO.tomb])[q]? = some (.cells (L.flatMap intL) sh)) := by
    rcases H with ⟨e1, e2, _⟩ | ⟨e1, _, p, q, s, s', _, _, _, e3, _, hp, _⟩
    · exact .inl ⟨e1, e2⟩
    · have p2 := (List.getElem?_eq_some_iff.1 hp).1
      exact .inr ⟨e1, p, s, by omega, e3, by rw [gk p p2]; exact hp⟩
  obtain ⟨G1, s1, r1, l1, o1, f1⟩ := slot_app (keep := true) (p := h.length) (G := h ++ [.tomb, .tomb]) (n := a) st1 (by simp) hl
  have g1t : G1[h.length + 1]? = some .tomb := by
    rw [f1 (h.length + 1) (by omega) fun q e => ?_]
    · rw [atT]; rfl
    · rcases st1 with ⟨_, e2⟩ | ⟨_, q', sh, _, e2, hq⟩
      · rw [e2] at e; cases e
      · rw [e2] at e
        cases e
        intro e
        subst e
        rw [atT] at hq
        cases hq
  have l1' : G1.length = h.length + 2 := by rw [l1]; simp
  have st2 : (U = [] ∧ u = .nils) ∨ (U ≠ [] ∧ ∃ q sh, q ≠ h.length + 1 ∧ u = .ms 1 q 0 U.length ∧ G1[q]? = some (.cells (U.flatMap intL) sh)) := by
    rcases H with ⟨_, _, e1, e2⟩ | ⟨e1, _, p, q, s, s', _, _, pq, e3, e4, hp, hq⟩
    · exact .inl ⟨e1, e2⟩
    · have q2 := (List.getElem?_eq_some_iff.1 hq).1
      refine .inr ⟨fun e => e1 (List.eq_nil_of_length_eq_zero (by rw [← el, e]; rfl)), q, s', by omega, by rw [el]; exact e4, ?_⟩
      rw [f1 q (by omega) fun q' e => ?_, gk q q2]
      · exact hq
      · rw [e3] at e; cases e; exact fun e => pq e.symm
  obtain ⟨G2, s2, r2, l2, o2, f2⟩ := slot_app (keep := false) (p := h.length + 1) (G := G1) (n := b) st2 (by omega) (by omega)
  rw [el] at r2
  have g2l : G2[h.length]? = some (.cells ((L ++ [a]).flatMap intL) s1) := by
    rw [f2 h.length (by omega) fun q e => ?_]
    · exact o1
    · rcases st2 with ⟨_, e2⟩ | ⟨_, q', sh, _, e2, hq⟩
      · rw [e2] at e; cases e
      · rcases H with ⟨_, _, _, e5⟩ | ⟨e1, _, p, q9, s, s', _, _, pq, e3, e4, hp, hq9⟩
        · rw [e5] at e2; cases e2
        · have q2 := (List.getElem?_eq_some_iff.1 hq9).1
          rw [e4] at e
          simp only [AV.ms.injEq] at e
          omega
  refine ⟨G1, G2, r1, ?_, r2, .inr ⟨by simp, by simp [el], h.length, h.length + 1, s1, s2, h1, by omega, by omega, by simp, by simp, g2l, o2⟩, by omega, fun k hk hn => (f1 k (by omega) hn).trans (gk k hk), fun k hk hn hm => ?_⟩
  · apply List.ext_getElem?
    intro k
    by_cases e : k = h.length + 1
    · subst e
      rw [List.getElem?_set_self (by omega), g1t]
    · rw [List.getElem?_set_ne (by omega)]
  · rw [f2 k (by omega) fun q e => hm q (by rw [← el]; exact e), f1 k (by omega) hn, gk k hk]

/-- the ends at a time -/
structure EndA (t : Trap) (i : Nat) (l u : AV) (L U : List Int) : Prop where
  il : IsSl 1 intL L l
  iu : IsSl 1 intL U u
  ll : L.length = t.C
  lu : U.length = t.C
  x : ∀ c, c < t.C → Xt t (fun x => gap t.C x i c) (L.getD c 0) (U.getD c 0)

set_option maxHeartbeats 2000000 in
theorem sEnds {t : Trap} {o w : AV} (H : TrOk t o w) (hv : t.valid = true) (hs : Solv t.C t.T t) {i : Nat} (hi : i < t.T) : ∃ l u L U, (∀ st, Iso E 12 [trV t o w, I i] st = some (.tup [l, u, Bo true])) ∧ EndA t i l u L U := by
  have V := valid_trb hv
  have v1 := V.c0; have v2 := V.c1; have v3 := V.t0; have v4 := V.t1
  have eC := trC V; have eT := trT V
  suffices hR : ∃ r h', R E (.fn 12) [trV t o w, I i] [] 0 = some (r, h') ∧ ∃ l u L U, r = .tup [l, u, Bo true] ∧ EnH h' l u L U ∧ L.length = t.C ∧ ∀ c, c < t.C → Xt t (fun x => gap t.C x i c) (L.getD c 0) (U.getD c 0) by
    obtain ⟨r, h', hr, l, u, L, U, rfl, hE, hl, hx⟩ := hR
    have el := hE.len
    rcases hE with ⟨e, _⟩ | ⟨_, _, p, q, s, s', _, _, _, rfl, rfl, hp, hq⟩
    · rw [e] at hl; simp at hl; omega
    · refine ⟨slV 1 intL L, slV 1 intL U, L, U, fun st => ?_, slV_is, slV_is, hl, by omega, hx⟩
      simp only [Iso, hr]
      have a1 := row_view (n := 6) hp st
      have a2 := row_view (n := 6) hq st
      rw [el] at a2
      show (([.ms 1 p 0 L.length, .ms 1 q 0 L.length, Bo true].mapM (view st h' 7)).map AV.tup) = _
      simp only [List.mapM_cons, List.mapM_nil, a1, a2, view_bool]
      rfl
  refine R_of (f := 12) (fun r h' => ∃ l u L U, r = .tup [l, u, Bo true] ∧ EnH h' l u L U ∧ L.length = t.C ∧ ∀ c, c < t.C → Xt t (fun x => gap t.C x i c) (L.getD c 0) (U.getD c 0)) (es _ _ _ _) e12 ?_
  simp only [f12, trV]
  simp (disch := first | assumption | omega | (simp only [az]; done)) only [ru, eq_self, if_true, if_false, BEq.rfl, binI, AO.row?, splice, fillL, mmAll, loadV, storeV, zeros, Am.rowAt, Am.part, addOff, Nat.reduceAdd, Nat.reduceMul, Nat.reduceLeDiff, Nat.reduceSub, Nat.reduceLT, Int.reduceEq, Int.reduceLT, Int.reduceLE, Int.reduceGT, Int.reduceGE, Int.reduceAdd, Int.reduceSub, Int.reduceMul, Int.reduceNeg, Int.reduceToNat, reduceCtorEq, reduceIte, lenV_sl H.o, lenV_sl H.w, elem_sl Ls.el H.o, elem_sl Wd.el H.w, view_sl H.o, view_sl H.w, scalar_sl H.o, scalar_sl H.w, cells_sl H.o, cells_sl H.w, pure_sl H.o, pure_sl H.w, Int.toNat_natCast]
  refine G_loop_ind (fun z ts hk mk => ∃ (c : Nat) (l u : AV) (L U : List Int), c ≤ t.C ∧ z = t.C - c ∧ ts.length = 54 ∧ ts.getD 1 .undef = I i ∧ ts.getD 2 .undef = .ptr 0 0 ∧ ts.getD 4 .undef = l ∧ ts.getD 5 .undef = u ∧ ts.getD 7 .undef = I c ∧
    1 ≤ hk.length ∧ hk[0]? = some (.cells [I t.ch, I t.tm, o, w] false) ∧ EnH hk l u L U ∧ L.length = c ∧ (∀ k, k < c → Xt t (fun x => gap t.C x i k) (L.getD k 0) (U.getD k 0)) ∧ mk = []) ?_ _ _ _ _
    ⟨0, .nils, .nils, [], [], Nat.zero_le _, rfl, rfl, rfl, rfl, rfl, rfl, rfl, by simp, rfl, .inl ⟨rfl, rfl, rfl, rfl⟩, rfl, fun k hk => absurd hk (by omega), rfl⟩
  rintro z ts hk mk ih ⟨c, l, u, L, U, hc, rfl, hll, q1, q2, q4, q5, q7, hg, k0, HE, hL, hX, rfl⟩
  rw [lit_all hll]
  simp only [lit0, litS, Nat.reduceAdd, q1, q2, q4, q5, q7]
  simp (disch := first | assumption | omega | (simp only [az]; done)) only [ru, eq_self, if_true, if_false, BEq.rfl, binI, AO.row?, splice, fillL, mmAll, loadV, storeV, zeros, Am.rowAt, Am.part, addOff, Nat.reduceAdd, Nat.reduceMul, Nat.reduceLeDiff, Nat.reduceSub, Nat.reduceLT, Int.reduceEq, Int.reduceLT, Int.reduceLE, Int.reduceGT, Int.reduceGE, Int.reduceAdd, Int.reduceSub, Int.reduceMul, Int.reduceNeg, Int.reduceToNat, reduceCtorEq, reduceIte, k0]
  by_cases hlt : (c : Int) < t.ch
  case neg =>
    have hc3 : c = t.C := by omega
    subst hc3
    simp (disch := first | assumption | omega | (simp only [az]; done)) only [ru, eq_self, if_true, if_false, BEq.rfl, binI, AO.row?, splice, fillL, mmAll, loadV, storeV, zeros, Am.rowAt, Am.part, addOff, Nat.reduceAdd, Nat.reduceMul, Nat.reduceLeDiff, Nat.reduceSub, Nat.reduceLT, Int.reduceEq, Int.reduceLT, Int.reduceLE, Int.reduceGT, Int.reduceGE, Int.reduceAdd, Int.reduceSub, Int.reduceMul, Int.reduceNeg, Int.reduceToNat, reduceCtorEq, reduceIte, hlt]
    rw [finG (vs := [l, u, Bo true]) (by simp only [List.mapM_cons, List.mapM_nil]; rfl)]
    exact ⟨l, u, L, U, rfl, HE, hL, hX⟩
  have hc2 : c < t.C := by omega
  have kJ : ∀ J, (hk ++ J)[0]? = some (.cells [I t.ch, I t.tm, o, w] false) := fun J => by rw [at_ap (by omega)]; exact k0
  refine (s32 H i c).elim fun lo h => h.elim fun hi' h => h.elim fun e h => ?_
  have c32 := h.1
  have A := h.2.val hv (by simp only [placeB, Bool.and_eq_true, decide_eq_true_eq]; omega) hs
  clear h
  obtain ⟨rfl, X⟩ := A
  simp only [Int.toNat_natCast] at X
  have bd := xt_bd hi hc2 X
  obtain ⟨x0, ⟨x1, x2, x3⟩, y1, y2, y3⟩ := xt_tr X
  try simp only at x0 x3 y3
  have n1 : ¬ lo < 0 := by omega
  have n2 : ¬ lo > hi' := by omega
  have n3 : ¬ hi' > 40 := by omega
  simp only [trV] at c32
  obtain ⟨H1, hH1⟩ : ∃ H1 : List AO, H1 = hk ++ [AO.cells [I lo, I hi'] false] := ⟨_, rfl⟩
  have l1 : H1.length = hk.length + 1 := by rw [hH1]; simp
  have g0 : H1[0]? = some (.cells [I t.ch, I t.tm, o, w] false) := by rw [hH1]; exact kJ _
  have gs : H1[hk.length]? = some (.cells [I lo, I hi'] false) := by rw [hH1, atT0]; rfl
  have gsJ : ∀ J, (H1 ++ J)[hk.length]? = some (.cells [I lo, I hi'] false) := fun J => by rw [at_ap (by omega)]; exact gs
  have HE1 : EnH H1 l u L U := by
    rcases HE with h | ⟨e1, e2, p, q, s, s', p1, q1', pq, e3, e4, hp, hq⟩
    · exact .inl h
    · have p2 := (List.getElem?_eq_some_iff.1 hp).1
      have q2 := (List.getElem?_eq_some_iff.1 hq).1
      exact .inr ⟨e1, e2, p, q, s, s', p1, q1', pq, e3, e4, by rw [hH1, at_ap p2]; exact hp, by rw [hH1, at_ap q2]; exact hq⟩
  refine (enH_app HE1 lo hi' (by omega) (by omega)).elim fun G1 h => h.elim fun G2 h => ?_
  have a1 := h.1
  have a2 := h.2.1
  have a3 := h.2.2.1
  have a4 := h.2.2.2.1
  have a5 := h.2.2.2.2.1
  have a6 := h.2.2.2.2.2.1
  have a7 := h.2.2.2.2.2.2
  clear h
  have npl : ∀ p, l = .ms 1 p 0 L.length → 1 ≤ p ∧ p < hk.length := fun p e => by
    rcases HE with ⟨_, e1, _⟩ | ⟨_, _, p', q', s, s', h1, h2, _, e3, e4, hp, hq⟩
    · rw [e1] at e; cases e
    · have p2 := (List.getElem?_eq_some_iff.1 hp).1
      rw [e3] at e
      simp only [AV.ms.injEq] at e
      omega
  have npu : ∀ p, u = .ms 1 p 0 L.length → 1 ≤ p ∧ p < hk.length := fun p e => by
    rcases HE with ⟨_, _, _, e1⟩ | ⟨_, _, p', q', s, s', h1, h2, _, e3, e4, hp, hq⟩
    · rw [e1] at e; cases e
    · have q2 := (List.getElem?_eq_some_iff.1 hq).1
      rw [e4] at e
      simp only [AV.ms.injEq] at e
      omega
  have gs1 : (G1.set H1.length AO.tomb)[hk.length]? = some (.cells [I lo, I hi'] false) := by
    rw [List.getElem?_set_ne (by omega), a6 hk.length (by omega) fun p e => by have := npl p e; omega]
    exact gs
  have g20 : G2[0]? = some (.cells [I t.ch, I t.tm, o, w] false) := by
    rw [a7 0 (by omega) (fun p e => by have := npl p e; omega) (fun p e => by have := npu p e; omega)]
    exact g0
  simp (disch := first | assumption | omega | (simp only [az]; done)) only [ru, eq_self, if_true, if_false, BEq.rfl, binI, AO.row?, splice, fillL, mmAll, loadV, storeV, zeros, Am.rowAt, Am.part, addOff, Nat.reduceAdd, Nat.reduceMul, Nat.reduceLeDiff, Nat.reduceSub, Nat.reduceLT, Int.reduceEq, Int.reduceLT, Int.reduceLE, Int.reduceGT, Int.reduceGE, Int.reduceAdd, Int.reduceSub, Int.reduceMul, Int.reduceNeg, Int.reduceToNat, reduceCtorEq, reduceIte, lenV_sl H.o, lenV_sl H.w, elem_sl Ls.el H.o, elem_sl Wd.el H.w, view_sl H.o, view_sl H.w, scalar_sl H.o, scalar_sl H.w, cells_sl H.o, cells_sl H.w, pure_sl H.o, pure_sl H.w, Int.toNat_natCast, hlt, k0, c32, n1, n2, n3, gUn, lenE, setT, setT0, atT, atT0, getT, getT0, Nat.add_assoc]
  rw [← hH1]
  have m1 : hk.length + 1 = H1.length := by omega
  have m2 : hk.length + 2 = H1.length + 1 := by omega
  simp (disch := first | assumption | omega | (simp only [az]; done)) only [ru, eq_self, if_true, if_false, BEq.rfl, binI, AO.row?, splice, fillL, mmAll, loadV, storeV, zeros, Am.rowAt, Am.part, addOff, Nat.reduceAdd, Nat.reduceMul, Nat.reduceLeDiff, Nat.reduceSub, Nat.reduceLT, Int.reduceEq, Int.reduceLT, Int.reduceLE, Int.reduceGT, Int.reduceGE, Int.reduceAdd, Int.reduceSub, Int.reduceMul, Int.reduceNeg, Int.reduceToNat, reduceCtorEq, reduceIte, m1, m2, gs, gsJ, gs1, n1, n2, n3, gUn, GO_mapp, hide, unhN, unhC, List.foldl_cons, List.foldl_nil, List.append_assoc, lenE, setT, setT0, atT, atT0, getT, getT0, Nat.add_assoc, a1, a2, a3]
  refine ih (t.C - (c + 1)) _ _ _ (by omega) ⟨c + 1, _, _, L ++ [lo], U ++ [hi'], by omega, rfl, rfl, rfl, rfl, rfl, rfl, rfl, by omega, g20, a4, by simp [hL], fun k hk' => ?_, rfl⟩
  have lU := HE.len
  by_cases e : k = c
  · subst e
    have e1 : (L ++ [lo]).getD k 0 = lo := by rw [List.getD_eq_getElem?_getD, List.getElem?_append_right (by omega), hL, Nat.sub_self]; rfl
    have e2 : (U ++ [hi']).getD k 0 = hi' := by rw [List.getD_eq_getElem?_getD, List.getElem?_append_right (by omega), lU, hL, Nat.sub_self]; rfl
    rw [e1, e2]
    exact X
  · have e1 : (L ++ [lo]).getD k 0 = L.getD k 0 := by rw [List.getD_eq_getElem?_getD, List.getElem?_append_left (by omega), ← List.getD_eq_getElem?_getD]
    have e2 : (U ++ [hi']).getD k 0 = U.getD k 0 := by rw [List.getD_eq_getElem?_getD, List.getElem?_append_left (by omega), ← List.getD_eq_getElem?_getD]
    rw [e1, e2]
    exact hX k (by omega)
end Go.Proofs.Ytjgbiclbpgkfeaa.S
