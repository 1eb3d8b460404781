/-
The program's repack.
-/
import Derived.Test.YtfagcnokdnanpaaGreatHf
namespace Go.Proofs.YtfagcnokdnanpaaGreat.S
open Go Go.Am Go.Proofs.YtfagcnokdnanpaaGreat.T
set_option maxRecDepth 100000
set_option linter.unusedSimpArgs false
set_option linter.unusedVariables false
def Fs.rF (f : Fs) (x : AV × Int) (F : List Int) : AV × Int := if x.2 < f.with F then (slV 1 intL F, f.with F) else x
def Fs.rB (f : Fs) (D : List (List Int)) : AV × Int := D.foldl f.rF (.nils, -1)
theorem rB_snoc {f : Fs} {D : List (List Int)} {F : List Int} : f.rB (D ++ [F]) = f.rF (f.rB D) F := by simp [Fs.rB, List.foldl_append]
theorem rB_take {f : Fs} (h0 : ∀ x ∈ f.pks, 0 ≤ f.with x) : ∀ n : Nat, n < f.pks.length → f.rB (f.pks.take (n + 1)) = (slV 1 intL (f.pks.getD (fsB (fun i => f.with (f.pks.getD i [])) (n + 1)).1.toNat []), (fsB (fun i => f.with (f.pks.getD i [])) (n + 1)).2)
  | 0, hn => by
    have h1 := h0 _ (getD_memL2 hn)
    rw [take_snoc (d := []) hn, rB_snoc]
    have e : fsB (fun i => f.with (f.pks.getD i [])) 1 = if (-1 : Int) < f.with (f.pks.getD 0 []) then (((0 : Nat) : Int), f.with (f.pks.getD 0 [])) else (0, -1) := rfl
    rw [if_pos (by omega)] at e
    rw [Nat.zero_add, e]
    show (if (-1 : Int) < f.with (f.pks.getD 0 []) then _ else _) = _
    rw [if_pos (by omega)]; rfl
  | n + 1, hn => by
    have ih := rB_take h0 n (by omega)
    rw [take_snoc (d := []) hn, rB_snoc, ih]
    have e : fsB (fun i => f.with (f.pks.getD i [])) (n + 1 + 1) = if (fsB (fun i => f.with (f.pks.getD i [])) (n + 1)).2 < f.with (f.pks.getD (n + 1) []) then (((n + 1 : Nat) : Int), f.with (f.pks.getD (n + 1) [])) else fsB (fun i => f.with (f.pks.getD i [])) (n + 1) := rfl
    rw [e]
    unfold Fs.rF
    simp only
    split
    · rfl
    · rfl
theorem rB_all {f : Fs} (G : FG f) : f.rB f.pks = (slV 1 intL f.bst, (f.rB f.pks).2) := by
  have l0 : 0 < f.pks.length := List.length_pos_of_mem (pk_mem G)
  have h := rB_take (f := f) (fun x hx => (tops_bd (FG.on G (mem_pks.1 hx).1 G.d)).1) (f.pks.length - 1) (by omega)
  rw [show f.pks.length - 1 + 1 = f.pks.length by omega, List.take_length] at h
  rw [h]; rfl
section
variable {f : Fs} {k p b pv bv : AV} {w : Nat → AV}
set_option maxHeartbeats 4000000 in
theorem r71 (H : FsOk f k p b pv bv w) (G : FG f) {mo lim : Nat} {g : List AO} (hmo : mo < g.length) (hlim : lim ≤ mo) {es' : List (List Int × AV)} (hm : g[mo]? = some (.mpo k4 es')) (C : CaOk f.bids es') :
    ∃ u g', R E (.fn 71) [wkV f k p b pv bv f.r mo] g lim = some (u, g') ∧ u = slV 1 intL f.bst := by
  have nb := G.bg.l
  refine R_of (fun u _ => u = slV 1 intL f.bst) (es _ _ _ _) e71 ?_
  simp only [f71]
  have lg : ∀ j, lim ≤ g.length + j := fun j => by omega
  simp (disch := first | assumption | omega | (simp only [az]; done)) only [ru, eq_self, if_true, if_false, BEq.rfl, binI, AO.row?, splice, fillL, mmAll, loadV, storeV, zeros, Am.rowAt, Am.part, addOff, Nat.reduceAdd, Nat.reduceMul, Nat.reduceLeDiff, Nat.reduceSub, Nat.reduceLT, Int.reduceEq, Int.reduceLT, Int.reduceLE, Int.reduceGT, Int.reduceGE, Int.reduceAdd, Int.reduceSub, Int.reduceMul, Int.reduceNeg, Int.reduceToNat, reduceCtorEq, reduceIte, rmp, H.fai, Int.toNat_natCast, rmr, lg, List.append_assoc, List.cons_append, List.nil_append, List.length_append, List.length_cons, List.length_nil, Nat.zero_add, Nat.add_assoc, atT, atT0, setT, setT0, List.getElem?_cons_succ, List.getElem?_cons_zero, List.set_cons_succ, List.set_cons_zero, Nat.le_add_right, Nat.le_refl]
  obtain ⟨n, hn⟩ : ∃ n, n = g.length := ⟨_, rfl⟩
  refine G_range_gen fun TS AS BD hTS hAS hBD => ?_
  obtain ⟨H1, hH1⟩ : ∃ H1 : List AO, H1 = g ++ [.cells (wkC f k p b pv bv f.r mo) false, .cells [.nils] false, .cells [I (-1)] false] ++ [.dfr, .loop .ready none 71 TS [9] AS BD (n + 3)] := ⟨_, rfl⟩
  have atH : ∀ j, H1[n + j]? = [AO.cells (wkC f k p b pv bv f.r mo) false, .cells [.nils] false, .cells [I (-1)] false, .dfr, .loop .ready none 71 TS [9] AS BD (n + 3)][j]? := fun j => by
    rw [hH1, List.append_assoc, hn, atT]; rfl
  have lH : H1.length = n + 5 := by rw [hH1, hn]; simp
  have key := t110 H G (mo := mo) (r := f.r) (o := n + 4) (lim := lim) (by omega)
    (P := fun D h => (∀ x ∈ D, x ∈ f.pks) ∧ h[n]? = some (.cells (wkC f k p b pv bv f.r mo) false) ∧ h[n + 1]? = some (.cells [(f.rB D).1] false) ∧ h[n + 2]? = some (.cells [I (f.rB D).2] false) ∧ h[n + 3]? = some .dfr ∧ h[n + 4]? = some (.loop .ready none 71 TS [9] AS BD (n + 3)) ∧ ∃ es, h[mo]? = some (.mpo k4 es) ∧ CaOk f.bids es)
    (by rintro D h h' ⟨z, a, b, c, d, e, es, m1, m2⟩ lo
        exact ⟨z, by rw [lo.k _ (by omega)]; exact a, by rw [lo.k _ (by omega)]; exact b, by rw [lo.k _ (by omega)]; exact c, by rw [lo.k _ (by omega)]; exact d, by rw [lo.k _ (by omega)]; exact e, es, by rw [lo.k _ (by omega)]; exact m1, m2⟩) ?_ (g := H1) (by omega) ?_
  · refine G_range_of rfl (by rw [hTS]; rfl) ?_
    obtain ⟨u, h3, hr, gp, g0, g1, g2, g3, g4, _⟩ := key
    rw [hH1] at hr
    have ll : (g ++ [AO.cells (wkC f k p b pv bv f.r mo) false, AO.cells [AV.nils] false, AO.cells [AV.int IntKind.i64 (-1)] false]).length = n + 3 := by simp [hn]
    rw [ll]
    refine ⟨u, h3, .ready, none, 71, TS, [9], AS, BD, n + 3, hr, g4, .inl rfl, ?_⟩
    simp only [Option.getD_none, GE_nrm]
    obtain ⟨h4, hh4⟩ : ∃ h4, h4 = h3.set (n + 3 + 1) (AO.loop .exhausted none 71 TS [9] AS BD (n + 3)) := ⟨_, rfl⟩
    rw [← hh4]
    have k1 : h4[n + 1]? = some (.cells [slV 1 intL f.bst] false) := by
      rw [hh4, List.getElem?_set_ne (by omega)]
      rw [rB_all G] at g1; exact g1
    have k3 : h4[n + 3]? = some .dfr := by rw [hh4, List.getElem?_set_ne (by omega)]; exact g3
    have sb : IsSl 1 intL f.bst (slV 1 intL f.bst) := slV_is
    refine G_at rfl hTS ?_
    rw [← hn]
    simp (disch := first | assumption | omega | (simp only [az]; done)) only [ru, eq_self, if_true, if_false, BEq.rfl, binI, AO.row?, splice, fillL, mmAll, loadV, storeV, zeros, Am.rowAt, Am.part, addOff, Nat.reduceAdd, Nat.reduceMul, Nat.reduceLeDiff, Nat.reduceSub, Nat.reduceLT, Int.reduceEq, Int.reduceLT, Int.reduceLE, Int.reduceGT, Int.reduceGE, Int.reduceAdd, Int.reduceSub, Int.reduceMul, Int.reduceNeg, Int.reduceToNat, reduceCtorEq, reduceIte, k1, lenV_sl sb, view_sl sb, scalar_sl sb, cells_sl sb, pure_sl sb]
    refine finM (h' := h4.set (n + 3) .tomb) (vs := [slV 1 intL f.bst]) (.inr rfl) (by simp; omega) ?_ ?_ ?_
    · simp only [takeMarks, k3]
    · simp (disch := first | assumption | omega | (simp only [az]; done)) only [ru, eq_self, if_true, if_false, BEq.rfl, binI, AO.row?, splice, fillL, mmAll, loadV, storeV, zeros, Am.rowAt, Am.part, addOff, Nat.reduceAdd, Nat.reduceMul, Nat.reduceLeDiff, Nat.reduceSub, Nat.reduceLT, Int.reduceEq, Int.reduceLT, Int.reduceLE, Int.reduceGT, Int.reduceGE, Int.reduceAdd, Int.reduceSub, Int.reduceMul, Int.reduceNeg, Int.reduceToNat, reduceCtorEq, reduceIte, List.mapM_cons, List.mapM_nil, getRes, Option.bind_eq_bind, Option.pure_def, Option.bind_some]
    · rfl
  · rintro D F h hq ⟨gp, g0, g1, g2, g3, g4, es, m1, m2⟩ hF
    have gp' : ∀ x ∈ D ++ [F], x ∈ f.pks := fun x hx => by
      rcases List.mem_append.1 hx with hx | hx
      · exact gp x hx
      · rw [List.mem_singleton] at hx; rw [hx]; exact hF
    have := R_rnd_of (E := E) (lim := lim) (args := [slV 1 intL F]) (P := fun u h' => u = Bo true ∧ (h'[n]? = some (.cells (wkC f k p b pv bv f.r mo) false) ∧ h'[n + 1]? = some (.cells [(f.rB (D ++ [F])).1] false) ∧ h'[n + 2]? = some (.cells [I (f.rB (D ++ [F])).2] false) ∧ h'[n + 3]? = some .dfr ∧ h'[n + 4]? = some (.loop .ready none 71 TS [9] AS BD (n + 3)) ∧ ∃ es, h'[mo]? = some (.mpo k4 es) ∧ CaOk f.bids es) ∧ Fk (n + 4 + 1) h h') g4 rfl (by omega) ?_
    · obtain ⟨u, h', hr, rfl, hp, fk⟩ := this
      exact ⟨h', hr, ⟨gp', hp⟩, fk⟩
    refine G_at hAS (by rw [hTS]) ?_
    simp only [setAll, List.set_cons_succ, List.set_cons_zero]
    rw [← hn]
    simp (disch := first | assumption | omega | (simp only [az]; done)) only [ru, eq_self, if_true, if_false, BEq.rfl, binI, AO.row?, splice, fillL, mmAll, loadV, storeV, zeros, Am.rowAt, Am.part, addOff, Nat.reduceAdd, Nat.reduceMul, Nat.reduceLeDiff, Nat.reduceSub, Nat.reduceLT, Int.reduceEq, Int.reduceLT, Int.reduceLE, Int.reduceGT, Int.reduceGE, Int.reduceAdd, Int.reduceSub, Int.reduceMul, Int.reduceNeg, Int.reduceToNat, reduceCtorEq, reduceIte]
    refine ⟨none, 71, TS, [9], AS, BD, n + 3, g4, ?_⟩
    obtain ⟨h6, hh6⟩ : ∃ h6, h6 = h.set (n + 4) (AO.loop .busy none 71 TS [9] AS BD (n + 3)) := ⟨_, rfl⟩
    rw [← hh6]
    have n0 : h6[n]? = some (.cells (wkC f k p b pv bv f.r mo) false) := by rw [hh6, List.getElem?_set_ne (by omega)]; exact g0
    have n1 : h6[n + 1]? = some (.cells [(f.rB D).1] false) := by rw [hh6, List.getElem?_set_ne (by omega)]; exact g1
    have n2 : h6[n + 2]? = some (.cells [I (f.rB D).2] false) := by rw [hh6, List.getElem?_set_ne (by omega)]; exact g2
    have n3 : h6[n + 3]? = some .dfr := by rw [hh6, List.getElem?_set_ne (by omega)]; exact g3
    have n4 : h6[n + 4]? = some (.loop .busy none 71 TS [9] AS BD (n + 3)) := by rw [hh6, List.getElem?_set_self (by omega)]
    have nm : h6[mo]? = some (.mpo k4 es) := by rw [hh6, List.getElem?_set_ne (by omega)]; exact m1
    have l6 : h6.length = h.length := by rw [hh6]; simp
    have hx := mem_pks.1 hF
    have np := G.h.np
    have V : IsSl 1 intL F (slV 1 intL F) := slV_is
    have a91 := t91 H G.h V hx.1 f.d (r := f.r) (fun i hi => rdF_out hi) (g := h6) (o := mo) (by omega)
    obtain ⟨g', es2, r79, l79, k79, m79, c79⟩ := t79 (FsOk.on H V (by omega) f.d) (FG.on G hx.1 G.d) (r := rdF f.h F f.d) (mo := mo) (lim := lim) (g := h6) (by omega) hlim nm m2
    refine G_at hBD rfl ?_
    simp only [wkC] at n0
    simp only [wkV, wkC, Fs.on] at a91 r79
    have wF : tops f.bids (rdF f.h F f.d) = f.with F := rfl
    rw [wF] at r79
    have rs := rB_snoc (f := f) (D := D) (F := F)
    have q0 : g'[n]? = some (.cells (wkC f k p b pv bv f.r mo) false) := by rw [k79 _ (by omega) (by omega), hh6, List.getElem?_set_ne (by omega)]; exact g0
    have q1 : g'[n + 1]? = some (.cells [(f.rB D).1] false) := by rw [k79 _ (by omega) (by omega)]; exact n1
    have q2 : g'[n + 2]? = some (.cells [I (f.rB D).2] false) := by rw [k79 _ (by omega) (by omega)]; exact n2
    have q3 : g'[n + 3]? = some .dfr := by rw [k79 _ (by omega) (by omega)]; exact n3
    have q4 : g'[n + 4]? = some (.loop .busy none 71 TS [9] AS BD (n + 3)) := by rw [k79 _ (by omega) (by omega)]; exact n4
    have old : ∀ j, n + 4 + 1 ≤ j → j < h.length → g'[j]? = h[j]? := fun j hj hl => by rw [k79 _ (by omega) (by omega), hh6, List.getElem?_set_ne (by omega)]
    have lq := (List.getElem?_eq_some_iff.1 q4).1
    have fin : ∀ (hx : List AO) (x : AV × Int), f.rB (D ++ [F]) = x → g'.length ≤ hx.length → (∀ j, j ≠ n + 1 → j ≠ n + 2 → hx[j]? = g'[j]?) → hx[n + 1]? = some (.cells [x.1] false) → hx[n + 2]? = some (.cells [I x.2] false) →
        (((hx.set (n + 4) (.loop .ready none 71 TS [9] AS BD (n + 3)))[n]? = some (.cells (wkC f k p b pv bv f.r mo) false) ∧ (hx.set (n + 4) (.loop .ready none 71 TS [9] AS BD (n + 3)))[n + 1]? = some (.cells [(f.rB (D ++ [F])).1] false) ∧ (hx.set (n + 4) (.loop .ready none 71 TS [9] AS BD (n + 3)))[n + 2]? = some (.cells [I (f.rB (D ++ [F])).2] false) ∧ (hx.set (n + 4) (.loop .ready none 71 TS [9] AS BD (n + 3)))[n + 3]? = some .dfr ∧ (hx.set (n + 4) (.loop .ready none 71 TS [9] AS BD (n + 3)))[n + 4]? = some (.loop .ready none 71 TS [9] AS BD (n + 3)) ∧ ∃ es, (hx.set (n + 4) (.loop .ready none 71 TS [9] AS BD (n + 3)))[mo]? = some (.mpo k4 es) ∧ CaOk f.bids es) ∧ Fk (n + 4 + 1) h (hx.set (n + 4) (.loop .ready none 71 TS [9] AS BD (n + 3)))) := fun hx x ex el eo e1 e2 => by
      refine ⟨⟨?_, ?_, ?_, ?_, ?_, es2, ?_, c79⟩, ⟨by simp; omega, fun j hj hl => by rw [List.getElem?_set_ne (by omega), eo j (by omega) (by omega)]; exact old j hj hl⟩⟩
      · rw [List.getElem?_set_ne (by omega), eo _ (by omega) (by omega)]; exact q0
      · rw [List.getElem?_set_ne (by omega), ex]; exact e1
      · rw [List.getElem?_set_ne (by omega), ex]; exact e2
      · rw [List.getElem?_set_ne (by omega), eo _ (by omega) (by omega)]; exact q3
      · rw [List.getElem?_set_self (by omega)]
      · rw [List.getElem?_set_ne (by omega), eo _ (by omega) (by omega)]; exact m79
    by_cases c1 : (f.rB D).2 < f.with F
    · unfold Fs.rF at rs
      rw [if_pos c1] at rs
      have b1 : lim ≤ n + 1 := by omega
      have b2 : lim ≤ n + 2 := by omega
      have q2' : ∀ z : AO, (g'.set (n + 1) z)[n + 2]? = some (.cells [I (f.rB D).2] false) := fun z => by rw [List.getElem?_set_ne (by omega)]; exact q2
      simp (disch := first | assumption | omega | (simp only [az]; done)) only [ru, eq_self, if_true, if_false, BEq.rfl, binI, AO.row?, splice, fillL, mmAll, loadV, storeV, zeros, Am.rowAt, Am.part, addOff, Nat.reduceAdd, Nat.reduceMul, Nat.reduceLeDiff, Nat.reduceSub, Nat.reduceLT, Int.reduceEq, Int.reduceLT, Int.reduceLE, Int.reduceGT, Int.reduceGE, Int.reduceAdd, Int.reduceSub, Int.reduceMul, Int.reduceNeg, Int.reduceToNat, reduceCtorEq, reduceIte, rmp, H.fai, Int.toNat_natCast, lenV_sl V, view_sl V, scalar_sl V, cells_sl V, pure_sl V, n0, a91, exOp_call3, exOp_call0, r79, q1, q2, c1, decide_true, b1, b2, q2']
      refine ⟨.busy, none, 71, TS, [9], AS, BD, n + 3, by rw [List.getElem?_set_ne (by omega), List.getElem?_set_ne (by omega)]; exact q4, fin _ _ rs (by simp) (fun j h1 h2 => by rw [List.getElem?_set_ne (by omega), List.getElem?_set_ne (by omega)]) ?_ ?_⟩
      · rw [List.getElem?_set_ne (by omega), List.getElem?_set_self (by omega)]
      · rw [List.getElem?_set_self (by simp; omega)]
    · unfold Fs.rF at rs
      rw [if_neg c1] at rs
      simp (disch := first | assumption | omega | (simp only [az]; done)) only [ru, eq_self, if_true, if_false, BEq.rfl, binI, AO.row?, splice, fillL, mmAll, loadV, storeV, zeros, Am.rowAt, Am.part, addOff, Nat.reduceAdd, Nat.reduceMul, Nat.reduceLeDiff, Nat.reduceSub, Nat.reduceLT, Int.reduceEq, Int.reduceLT, Int.reduceLE, Int.reduceGT, Int.reduceGE, Int.reduceAdd, Int.reduceSub, Int.reduceMul, Int.reduceNeg, Int.reduceToNat, reduceCtorEq, reduceIte, rmp, H.fai, Int.toNat_natCast, lenV_sl V, view_sl V, scalar_sl V, cells_sl V, pure_sl V, n0, a91, exOp_call3, exOp_call0, r79, q1, q2, c1, decide_false]
      exact ⟨.busy, none, 71, TS, [9], AS, BD, n + 3, q4, fin _ _ rs (Nat.le_refl _) (fun _ _ _ => rfl) q1 q2⟩
  · refine ⟨by simp, atH 0, atH 1, atH 2, atH 3, atH 4, es', ?_, C⟩
    rw [hH1, List.append_assoc, at_ap hmo]; exact hm
end
end Go.Proofs.YtfagcnokdnanpaaGreat.S
