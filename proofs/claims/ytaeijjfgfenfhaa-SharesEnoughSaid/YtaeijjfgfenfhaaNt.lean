/-
Enough.
-/
import Derived.Test.YtaeijjfgfenfhaaNq
namespace Go.Proofs.Ytaeijjfgfenfhaa.S
open Go Go.Am Go.Proofs.Ytaeijjfgfenfhaa.T
set_option maxRecDepth 100000
set_option linter.unusedSimpArgs false
set_option linter.unusedVariables false

def lessL (L : List Int) (j : Nat) : List Int := L.set j (L.getD j 0 - 1)
theorem less_len {L : List Int} {j : Nat} : (lessL L j).length = L.length := by simp [lessL]
theorem less_at {L : List Int} {j k : Nat} (hj : j < L.length) : (lessL L j).getD k 0 = if k = j then L.getD j 0 - 1 else L.getD k 0 := by
  unfold lessL
  rw [List.getD_eq_getElem?_getD, List.getD_eq_getElem?_getD]
  by_cases e : k = j
  · subst e; rw [if_pos rfl, List.getElem?_set_self hj]; rfl
  · rw [if_neg e, List.getElem?_set_ne (Ne.symm e), List.getD_eq_getElem?_getD]
theorem eno_less {C : List Nd} {p : Int} {L : List Int} {j : Nat} (hj : j < L.length) (h : eno C p L = true) : eno C p (lessL L j) = true := by
  unfold eno at h ⊢
  rw [less_len]
  simp only [List.all_eq_true, List.mem_range, decide_eq_true_eq] at h ⊢
  intro k hk
  have := h k hk
  rw [less_at hj]
  split
  · subst_vars; omega
  · exact this
theorem coB_iff {C : List Nd} {L : List Int} : coB C L = true ↔ L.length = C.length ∧ ∀ j, j < L.length → 0 ≤ L.getD j 0 ∧ L.getD j 0 ≤ 400 := by
  unfold coB
  simp only [Bool.and_eq_true, decide_eq_true_eq, List.all_eq_true, inR_iff]
  constructor
  · rintro ⟨h1, h2⟩; exact ⟨h1, fun j hj => h2 _ (getD_memI hj)⟩
  · rintro ⟨h1, h2⟩
    refine ⟨h1, fun x hx => ?_⟩
    obtain ⟨j, hj, rfl⟩ := mem_getD (d := 0) hx
    exact h2 j hj
section
variable {C : List Nd} {v : AV} (hv : IsSl 3 Nd.e C v)
include hv
theorem t56 {L : List Int} {lv : AV} (V : IsSl 1 intL L lv) (hL : L.length ≤ 1000) (st : Bool) : Iso E 56 [cuV v, lv] st = some (Bo (coB C L)) := by
  refine Iso_of (es _ _ _ _) e56 ?_
  simp only [f56]
  by_cases h1 : L.length = C.length
  · have b1 : ((L.length : Int) != C.length) = false := by simp [h1]
    have e0 : coB C L = (List.range L.length).all fun j => inR (L.getD j 0) 0 400 := by
      rw [Bool.eq_iff_iff, coB_iff]
      simp only [List.all_eq_true, List.mem_range, inR_iff]
      exact ⟨fun h => h.2, fun h => ⟨h1, h⟩⟩
    simp (disch := first | assumption | omega | (simp only [az]; done)) only [ru, eq_self, if_true, if_false, BEq.rfl, binI, AO.row?, splice, fillL, mmAll, loadV, storeV, zeros, Am.rowAt, Am.part, addOff, Nat.reduceAdd, Nat.reduceMul, Nat.reduceLeDiff, Nat.reduceSub, Nat.reduceLT, Int.reduceEq, Int.reduceLT, Int.reduceLE, Int.reduceGT, Int.reduceGE, Int.reduceAdd, Int.reduceSub, Int.reduceMul, Int.reduceNeg, Int.reduceToNat, reduceCtorEq, reduceIte, lenV_sl hv, view_sl hv, scalar_sl hv, cells_sl hv, pure_sl hv, lenV_sl V, elem_in V, view_sl V, scalar_sl V, cells_sl V, pure_sl V, Int.toNat_natCast, b1]
    refine G_loop_ind (fun y ts hk mk => ∃ i : Nat, i ≤ L.length ∧ y = L.length - i ∧ ((List.range i).all fun j => inR (L.getD j 0) 0 400) = true ∧ ts.length = 24 ∧ ts.getD 1 .undef = lv ∧ ts.getD 5 .undef = I i ∧ mk = []) ?_ L.length _ _ _ ⟨0, Nat.zero_le _, rfl, rfl, rfl, rfl, rfl, rfl⟩
    rintro y ts hk mk ih ⟨i, hi, rfl, hall, hl', q1, q5, rfl⟩
    rw [lit_all hl']
    simp only [lit0, litS, Nat.reduceAdd, q1, q5]
    by_cases hlt : (i : Int) < L.length
    · have no := fun hp => range_not (N := L.length) (p := fun j => inR (L.getD j 0) 0 400) (show i < L.length by omega) hp
      have nx := fun hp => range_all_succ (p := fun j => inR (L.getD j 0) 0 400) hall hp
      cases hc : inR (L.getD i 0) 0 400
      · have := no hc
        rw [← e0] at this
        simp (disch := first | assumption | omega | (simp only [az]; done)) only [ru, eq_self, if_true, if_false, BEq.rfl, binI, AO.row?, splice, fillL, mmAll, loadV, storeV, zeros, Am.rowAt, Am.part, addOff, Nat.reduceAdd, Nat.reduceMul, Nat.reduceLeDiff, Nat.reduceSub, Nat.reduceLT, Int.reduceEq, Int.reduceLT, Int.reduceLE, Int.reduceGT, Int.reduceGE, Int.reduceAdd, Int.reduceSub, Int.reduceMul, Int.reduceNeg, Int.reduceToNat, reduceCtorEq, reduceIte, hlt, lenV_sl V, elem_in V, view_sl V, scalar_sl V, cells_sl V, pure_sl V, Int.toNat_natCast, t46, hc, Bool.not_false, this]
      · simp (disch := first | assumption | omega | (simp only [az]; done)) only [ru, eq_self, if_true, if_false, BEq.rfl, binI, AO.row?, splice, fillL, mmAll, loadV, storeV, zeros, Am.rowAt, Am.part, addOff, Nat.reduceAdd, Nat.reduceMul, Nat.reduceLeDiff, Nat.reduceSub, Nat.reduceLT, Int.reduceEq, Int.reduceLT, Int.reduceLE, Int.reduceGT, Int.reduceGE, Int.reduceAdd, Int.reduceSub, Int.reduceMul, Int.reduceNeg, Int.reduceToNat, reduceCtorEq, reduceIte, hlt, lenV_sl V, elem_in V, view_sl V, scalar_sl V, cells_sl V, pure_sl V, Int.toNat_natCast, t46, hc, Bool.not_true]
        exact ih (L.length - (i + 1)) _ _ _ (by omega) ⟨i + 1, by omega, rfl, nx hc, rfl, rfl, rfl, rfl⟩
    · obtain rfl : i = L.length := by omega
      rw [← e0] at hall
      simp (disch := first | assumption | omega | (simp only [az]; done)) only [ru, eq_self, if_true, if_false, BEq.rfl, binI, AO.row?, splice, fillL, mmAll, loadV, storeV, zeros, Am.rowAt, Am.part, addOff, Nat.reduceAdd, Nat.reduceMul, Nat.reduceLeDiff, Nat.reduceSub, Nat.reduceLT, Int.reduceEq, Int.reduceLT, Int.reduceLE, Int.reduceGT, Int.reduceGE, Int.reduceAdd, Int.reduceSub, Int.reduceMul, Int.reduceNeg, Int.reduceToNat, reduceCtorEq, reduceIte, hlt, lenV_sl V, elem_in V, view_sl V, scalar_sl V, cells_sl V, pure_sl V, Int.toNat_natCast, hall]
  · have b1 : ((L.length : Int) != C.length) = true := by simp; omega
    have e0 : coB C L = false := by unfold coB; simp [h1]
    simp (disch := first | assumption | omega | (simp only [az]; done)) only [ru, eq_self, if_true, if_false, BEq.rfl, binI, AO.row?, splice, fillL, mmAll, loadV, storeV, zeros, Am.rowAt, Am.part, addOff, Nat.reduceAdd, Nat.reduceMul, Nat.reduceLeDiff, Nat.reduceSub, Nat.reduceLT, Int.reduceEq, Int.reduceLT, Int.reduceLE, Int.reduceGT, Int.reduceGE, Int.reduceAdd, Int.reduceSub, Int.reduceMul, Int.reduceNeg, Int.reduceToNat, reduceCtorEq, reduceIte, lenV_sl hv, view_sl hv, scalar_sl hv, cells_sl hv, pure_sl hv, lenV_sl V, elem_in V, view_sl V, scalar_sl V, cells_sl V, pure_sl V, Int.toNat_natCast, b1, e0]
/-- Enough -/
theorem x35r (H : CuOk C) {L : List Int} {lv : AV} (V : IsSl 1 intL L lv) (hc : coB C L = true) (st : Bool) : Iso E 35 [cuV v, lv] st = some (.tup [I (frN 400 fun p => eno C p L), I (frE 400 fun p => eno C p L)]) := by
  have hl : C.length ≤ 1000 := by have := H.n8; omega
  have h := t35 hv hl V (by have := (coB_iff.1 hc).1; omega) st
  rw [hc, fit_val H, if_pos rfl, ansN, if_pos rfl] at h
  exact h
omit hv in
theorem eno_iff {L : List Int} {p : Int} : eno C p L = true ↔ ∀ j, j < L.length → L.getD j 0 ≤ kK C p j := by
  unfold eno; simp
def sq : ACode → ACode
  | .seq _ b => b
  | c => c
def fq : ACode → ACode
  | .seq a _ => a
  | c => c
def tail13 : ACode := sq (sq (sq (sq (sq f13.body))))
omit hv in
theorem body13 : f13.body = .seq (fq f13.body) (.seq (fq (sq f13.body)) (.seq (fq (sq (sq f13.body))) (.seq (fq (sq (sq (sq f13.body)))) (.seq (fq (sq (sq (sq (sq f13.body))))) tail13)))) := rfl
omit hv in
theorem tmps13 : f13.ntmps = 155 := rfl
omit hv in
theorem res13 : f13.results = [.tmp 6] := rfl
omit hv in
theorem int_hd {l : List Int} {i : Nat} (hi : i < l.length) : ((l.flatMap intL).drop i).head? = some (I (l.getD i 0)) := by
  induction l generalizing i with
  | nil => simp at hi
  | cons a l ih =>
    cases i with
    | zero => rfl
    | succ i => exact ih (i := i) (by simpa using hi)
omit hv in
theorem viewB {l : List Int} {g : List AO} {o : Nat} (hc : g[o]? = some (.cells (l.flatMap intL) false)) {st : Bool} {n : Nat} : Am.view st g (n + 1) (.ms 1 o 0 l.length) = some (slV 1 intL l) := RdC.view (enc := intL) ⟨o, rfl, hc⟩ intE intIv
omit hv in
theorem less_co {L : List Int} {n : Nat} (hc : coB C L = true) (hn : n < L.length) (h0 : L.getD n 0 ≠ 0) : coB C (lessL L n) = true := by
  obtain ⟨h1, h2⟩ := coB_iff.1 hc
  refine coB_iff.2 ⟨by rw [less_len, h1], fun j hj => ?_⟩
  rw [less_len] at hj
  rw [less_at hn]
  have := h2 j hj
  have := h2 n hn
  split <;> omega
/-- one less is needed: no more pence are -/
theorem lt13 (H : CuOk C) {L : List Int} {lv : AV} (V : IsSl 1 intL L lv) (hc : coB C L = true) (m : Tm) (ts : List AV) (hk : List AO) (c0 : hk[0]? = some (.cells [v] false)) (c1 : hk[1]? = some (.cells [I m.t, I m.n, I m.p] false)) (hl' : ts.length = 155) (q1 : ts.getD 1 .undef = lv) (q3 : ts.getD 3 .undef = .ptr 0 0) (q5 : ts.getD 5 .undef = .ptr 1 0) (q7 : ts.getD 7 .undef = I (frN 400 fun p => eno C p L)) (q8 : ts.getD 8 .undef = I (frE 400 fun p => eno C p L)) (st : Bool) :
    Am.G ⟨E, 0, none, 13, Done 0 [ARes.tmp 6] fun r h' => Am.view st h' 8 r = some (Bo true)⟩ tail13 [] ts hk [] := by
  obtain ⟨hLC, hLb⟩ := coB_iff.1 hc
  have n8 := H.n8
  have hl : C.length ≤ 1000 := by omega
  rw [lit_all hl']
  simp only [lit0, litS, Nat.reduceAdd, q1, q3, q5, q7, q8]
  simp only [tail13, sq, f13]
  cases hi : inR m.n 0 (C.length - 1)
  · simp (disch := first | assumption | omega | (simp only [az]; done)) only [ru, eq_self, if_true, if_false, BEq.rfl, binI, AO.row?, splice, fillL, mmAll, loadV, storeV, zeros, Am.rowAt, Am.part, addOff, Nat.reduceAdd, Nat.reduceMul, Nat.reduceLeDiff, Nat.reduceSub, Nat.reduceLT, Int.reduceEq, Int.reduceLT, Int.reduceLE, Int.reduceGT, Int.reduceGE, Int.reduceAdd, Int.reduceSub, Int.reduceMul, Int.reduceNeg, Int.reduceToNat, reduceCtorEq, reduceIte, lenV_sl hv, view_sl hv, scalar_sl hv, cells_sl hv, pure_sl hv, c0, c1, t49 hv hl, hi, Bool.not_false, gUn, t17]
  have hi' := inR_iff.1 hi
  obtain ⟨mt, mn, mp⟩ := m
  dsimp only at *
  obtain ⟨n, rfl⟩ : ∃ n : Nat, mn = n := ⟨mn.toNat, by omega⟩
  have hn : n < L.length := by omega
  have hni : (n : Int) < L.length := by omega
  by_cases h0 : L.getD n 0 = 0
  · simp (disch := first | assumption | omega | (simp only [az]; done)) only [ru, eq_self, if_true, if_false, BEq.rfl, binI, AO.row?, splice, fillL, mmAll, loadV, storeV, zeros, Am.rowAt, Am.part, addOff, Nat.reduceAdd, Nat.reduceMul, Nat.reduceLeDiff, Nat.reduceSub, Nat.reduceLT, Int.reduceEq, Int.reduceLT, Int.reduceLE, Int.reduceGT, Int.reduceGE, Int.reduceAdd, Int.reduceSub, Int.reduceMul, Int.reduceNeg, Int.reduceToNat, reduceCtorEq, reduceIte, lenV_sl hv, view_sl hv, scalar_sl hv, cells_sl hv, pure_sl hv, lenV_sl V, elem_in V, view_sl V, scalar_sl V, cells_sl V, pure_sl V, Int.toNat_natCast, c0, c1, t49 hv hl, hi, Bool.not_true, hni, h0, gUn, t17]
  have b0 : (L.getD n 0 == 0) = false := by simpa using h0
  have hb := hLb n hn
  obtain ⟨o, h', A, fr, oge, hc'⟩ := cpyO (eb := 8) (lim := 0) (h := hk) V intE intSc (by omega) (by omega) (Nat.zero_le _)
  have d0 := fr.at c0
  have d1 := fr.at c1
  have ol := (List.getElem?_eq_some_iff.1 hc').1
  have hk2 := (List.getElem?_eq_some_iff.1 c1).1
  have p1 := int_put hn (L.getD n 0 - 1)
  obtain ⟨row, hrow⟩ : ∃ row, row = L.flatMap intL := ⟨_, rfl⟩
  have rl : row.length = L.length := by rw [hrow, flat_len intE]; omega
  have hd := int_hd hn
  rw [← hrow] at hd
  rw [← hrow] at p1 hc'
  have fit1 : n + 1 ≤ row.length := by omega
  obtain ⟨H1, hH1⟩ : ∃ H1, H1 = h'.set o (.cells ((lessL L n).flatMap intL) false) := ⟨_, rfl⟩
  have p2 : row.take n ++ [I (L.getD n 0 - 1)] ++ row.drop (n + 1) = (lessL L n).flatMap intL := p1
  have k0 : H1[0]? = some (.cells [v] false) := by rw [hH1, List.getElem?_set_ne (by omega)]; exact d0
  have k1 : H1[1]? = some (.cells [I mt, I n, I mp] false) := by rw [hH1, List.getElem?_set_ne (by omega)]; exact d1
  have kc : H1[o]? = some (.cells ((lessL L n).flatMap intL) false) := by rw [hH1, List.getElem?_set_self ol]
  have hc2 := less_co hc hn h0
  have vw := viewB kc (st := false) (n := 7)
  rw [less_len] at vw
  have h35 := fun st => x35r hv H (slV_is (esz := 1) (enc := intL) (l := lessL L n)) hc2 st
  have wr := wr64 (n := L.getD n 0 - 1) (by omega) (by omega)
  have j0 : ∀ W : AO, (hk ++ [W])[0]? = some (.cells [v] false) := fun W => Fr.at (Fr.app _ _) c0
  rcases fr_cases 400 (fun p => eno C p L) with ⟨k, f1, f2, hkk, hq, hbe⟩ | ⟨f1, f2, hbe⟩
  · rcases fr_cases 400 (fun p => eno C p (lessL L n)) with ⟨k', g1, g2, hkk', hq', hbe'⟩ | ⟨g1, g2, hbe'⟩
    · have hle : (k' : Int) ≤ (k : Int) := by
        rcases Nat.lt_or_ge k k' with h | h
        · have := hbe' k h; rw [eno_less hn hq] at this; cases this
        · omega
      simp (disch := first | assumption | omega | (simp only [az]; done)) only [ru, eq_self, if_true, if_false, BEq.rfl, binI, AO.row?, splice, fillL, mmAll, loadV, storeV, zeros, Am.rowAt, Am.part, addOff, Nat.reduceAdd, Nat.reduceMul, Nat.reduceLeDiff, Nat.reduceSub, Nat.reduceLT, Int.reduceEq, Int.reduceLT, Int.reduceLE, Int.reduceGT, Int.reduceGE, Int.reduceAdd, Int.reduceSub, Int.reduceMul, Int.reduceNeg, Int.reduceToNat, reduceCtorEq, reduceIte, lenV_sl hv, view_sl hv, scalar_sl hv, cells_sl hv, pure_sl hv, lenV_sl V, elem_in V, view_sl V, scalar_sl V, cells_sl V, pure_sl V, Int.toNat_natCast, c0, c1, t49 hv hl, hi, Bool.not_true, hni, h0, b0, gUn, A, d0, d1, hc', Nat.mul_one, Nat.zero_add, hd, fit1, p2, ← hH1, k0, k1, kc, vw, h35, f1, f2, g1, g2, hle, wr, t17]
      done
    · have := hbe' k hkk; rw [eno_less hn hq] at this; cases this
  · simp (disch := first | assumption | omega | (simp only [az]; done)) only [ru, eq_self, if_true, if_false, BEq.rfl, binI, AO.row?, splice, fillL, mmAll, loadV, storeV, zeros, Am.rowAt, Am.part, addOff, Nat.reduceAdd, Nat.reduceMul, Nat.reduceLeDiff, Nat.reduceSub, Nat.reduceLT, Int.reduceEq, Int.reduceLT, Int.reduceLE, Int.reduceGT, Int.reduceGE, Int.reduceAdd, Int.reduceSub, Int.reduceMul, Int.reduceNeg, Int.reduceToNat, reduceCtorEq, reduceIte, lenV_sl hv, view_sl hv, scalar_sl hv, cells_sl hv, pure_sl hv, lenV_sl V, elem_in V, view_sl V, scalar_sl V, cells_sl V, pure_sl V, Int.toNat_natCast, c0, c1, t49 hv hl, hi, Bool.not_true, hni, h0, b0, gUn, A, d0, d1, hc', Nat.mul_one, Nat.zero_add, hd, fit1, p2, ← hH1, k0, k1, kc, vw, h35, f1, f2, wr, t17]
    done
set_option maxHeartbeats 4000000 in
theorem l13 {L : List Int} {lv : AV} (V : IsSl 1 intL L lv) (m : Tm) (st : Bool) : Iso E 13 [cuV v, lv, .agg [I m.t, I m.n, I m.p]] st = some (Bo true) := by
  refine Iso_of (es _ _ _ _) e13 ?_
  rw [body13, tmps13, res13]
  cases hr : rdy C
  · simp (disch := first | assumption | omega | (simp only [az]; done)) only [ru, eq_self, if_true, if_false, BEq.rfl, binI, AO.row?, splice, fillL, mmAll, loadV, storeV, zeros, Am.rowAt, Am.part, addOff, Nat.reduceAdd, Nat.reduceMul, Nat.reduceLeDiff, Nat.reduceSub, Nat.reduceLT, Int.reduceEq, Int.reduceLT, Int.reduceLE, Int.reduceGT, Int.reduceGE, Int.reduceAdd, Int.reduceSub, Int.reduceMul, Int.reduceNeg, Int.reduceToNat, reduceCtorEq, reduceIte, fq, sq, f13, lenV_sl hv, view_sl hv, scalar_sl hv, cells_sl hv, pure_sl hv, t45r hv, hr, Bool.not_false, gUn, t17]
  obtain ⟨H, hl⟩ := rdy_ok hr
  by_cases h40 : (L.length : Int) > 40
  · simp (disch := first | assumption | omega | (simp only [az]; done)) only [ru, eq_self, if_true, if_false, BEq.rfl, binI, AO.row?, splice, fillL, mmAll, loadV, storeV, zeros, Am.rowAt, Am.part, addOff, Nat.reduceAdd, Nat.reduceMul, Nat.reduceLeDiff, Nat.reduceSub, Nat.reduceLT, Int.reduceEq, Int.reduceLT, Int.reduceLE, Int.reduceGT, Int.reduceGE, Int.reduceAdd, Int.reduceSub, Int.reduceMul, Int.reduceNeg, Int.reduceToNat, reduceCtorEq, reduceIte, fq, sq, f13, lenV_sl hv, view_sl hv, scalar_sl hv, cells_sl hv, pure_sl hv, lenV_sl V, elem_in V, view_sl V, scalar_sl V, cells_sl V, pure_sl V, Int.toNat_natCast, t45r hv, hr, Bool.not_true, gUn, h40, decide_true, t17]
  have hL : L.length ≤ 1000 := by omega
  cases hc : coB C L
  · simp (disch := first | assumption | omega | (simp only [az]; done)) only [ru, eq_self, if_true, if_false, BEq.rfl, binI, AO.row?, splice, fillL, mmAll, loadV, storeV, zeros, Am.rowAt, Am.part, addOff, Nat.reduceAdd, Nat.reduceMul, Nat.reduceLeDiff, Nat.reduceSub, Nat.reduceLT, Int.reduceEq, Int.reduceLT, Int.reduceLE, Int.reduceGT, Int.reduceGE, Int.reduceAdd, Int.reduceSub, Int.reduceMul, Int.reduceNeg, Int.reduceToNat, reduceCtorEq, reduceIte, fq, sq, f13, lenV_sl hv, view_sl hv, scalar_sl hv, cells_sl hv, pure_sl hv, lenV_sl V, elem_in V, view_sl V, scalar_sl V, cells_sl V, pure_sl V, Int.toNat_natCast, t45r hv, hr, Bool.not_true, gUn, h40, decide_false, t56 hv V hL, hc, Bool.not_false, t17]
  obtain ⟨hLC, hLb⟩ := coB_iff.1 hc
  have n8 := H.n8
  obtain ⟨q, x0, x1, hq, A, hx⟩ := cpyQ (eb := 8) (lim := 0) (h := [.cells [v] false, .cells [I m.t, I m.n, I m.p] false]) (J := []) V intE intSc (by omega) (by omega) (Nat.zero_le _)
  simp only [List.length_cons, List.length_nil, Nat.zero_add, Nat.reduceAdd, List.cons_append, List.nil_append] at A
  have hx2 : ([.cells [v] false, .cells [I m.t, I m.n, I m.p] false, x0, x1] : List AO)[2 + q]? = some (.cells (L.flatMap intL) false) := by
    match q, hq with
    | 0, _ => simpa using hx
    | 1, _ => simpa using hx
  have vwS := viewB hx2 (st := false) (n := 7)
  have h35 := fun st => x35r hv H (slV_is (esz := 1) (enc := intL) (l := L)) hc st
  have lt := lt13 hv H V hc m
  have n33 : ((3 : Int) != 3) = false := rfl
  have n30 : ((3 : Int) != 0) = true := rfl
  have n00 : ((0 : Int) != 0) = false := rfl
  have e30 : ((3 : Int) == 0) = false := rfl
  have e00 : ((0 : Int) == 0) = true := rfl
  -- what is kept of so many pence
  cases hp : inR m.p 0 400
  · rcases fr_cases 400 (fun p => eno C p L) with ⟨k, f1, f2, hkk, hq, hbe⟩ | ⟨f1, f2, hbe⟩
    · have ik : inR (k : Int) 0 400 = true := inR_iff.2 (by omega)
      rw [f1, f2] at lt
      simp (disch := first | assumption | omega | (simp only [az]; done)) only [ru, eq_self, if_true, if_false, BEq.rfl, binI, AO.row?, splice, fillL, mmAll, loadV, storeV, zeros, Am.rowAt, Am.part, addOff, Nat.reduceAdd, Nat.reduceMul, Nat.reduceLeDiff, Nat.reduceSub, Nat.reduceLT, Int.reduceEq, Int.reduceLT, Int.reduceLE, Int.reduceGT, Int.reduceGE, Int.reduceAdd, Int.reduceSub, Int.reduceMul, Int.reduceNeg, Int.reduceToNat, reduceCtorEq, reduceIte, fq, sq, f13, lenV_sl hv, view_sl hv, scalar_sl hv, cells_sl hv, pure_sl hv, lenV_sl V, elem_in V, view_sl V, scalar_sl V, cells_sl V, pure_sl V, Int.toNat_natCast, t45r hv, hr, Bool.not_true, gUn, h40, decide_false, t56 hv V hL, hc, hideN, hideC, GO_mload, GO_mapp, unhN, unhC, A, vwS, h35, f1, f2, n00, e00, t46, ik, hp]
      exact lt _ _ rfl rfl rfl rfl rfl rfl rfl rfl st
    · rw [f1, f2] at lt
      simp (disch := first | assumption | omega | (simp only [az]; done)) only [ru, eq_self, if_true, if_false, BEq.rfl, binI, AO.row?, splice, fillL, mmAll, loadV, storeV, zeros, Am.rowAt, Am.part, addOff, Nat.reduceAdd, Nat.reduceMul, Nat.reduceLeDiff, Nat.reduceSub, Nat.reduceLT, Int.reduceEq, Int.reduceLT, Int.reduceLE, Int.reduceGT, Int.reduceGE, Int.reduceAdd, Int.reduceSub, Int.reduceMul, Int.reduceNeg, Int.reduceToNat, reduceCtorEq, reduceIte, fq, sq, f13, lenV_sl hv, view_sl hv, scalar_sl hv, cells_sl hv, pure_sl hv, lenV_sl V, elem_in V, view_sl V, scalar_sl V, cells_sl V, pure_sl V, Int.toNat_natCast, t45r hv, hr, Bool.not_true, gUn, h40, decide_false, t56 hv V hL, hc, hideN, hideC, GO_mload, GO_mapp, unhN, unhC, A, vwS, h35, f1, f2, n33, n30, e30, t46, hp]
      exact lt _ _ rfl rfl rfl rfl rfl rfl rfl rfl st
  obtain ⟨mt, mn, mp⟩ := m
  dsimp only at *
  have hp' := inR_iff.1 hp
  obtain ⟨pn, hm⟩ : ∃ pn : Nat, mp = pn := ⟨mp.toNat, by omega⟩
  subst hm
  have h23 := x23r hv H hp
  rcases fr_cases 400 (fun p => eno C p L) with ⟨k, f1, f2, hkk, hq, hbe⟩ | ⟨f1, f2, hbe⟩
  · have ik : inR (k : Int) 0 400 = true := inR_iff.2 (by omega)
    rw [f1, f2] at lt
    by_cases hle : (pn : Int) ≤ k
    case neg =>
      simp (disch := first | assumption | omega | (simp only [az]; done)) only [ru, eq_self, if_true, if_false, BEq.rfl, binI, AO.row?, splice, fillL, mmAll, loadV, storeV, zeros, Am.rowAt, Am.part, addOff, Nat.reduceAdd, Nat.reduceMul, Nat.reduceLeDiff, Nat.reduceSub, Nat.reduceLT, Int.reduceEq, Int.reduceLT, Int.reduceLE, Int.reduceGT, Int.reduceGE, Int.reduceAdd, Int.reduceSub, Int.reduceMul, Int.reduceNeg, Int.reduceToNat, reduceCtorEq, reduceIte, fq, sq, f13, lenV_sl hv, view_sl hv, scalar_sl hv, cells_sl hv, pure_sl hv, lenV_sl V, elem_in V, view_sl V, scalar_sl V, cells_sl V, pure_sl V, Int.toNat_natCast, t45r hv, hr, Bool.not_true, gUn, h40, decide_false, t56 hv V hL, hc, hideN, hideC, GO_mload, GO_mapp, unhN, unhC, A, vwS, h35, f1, f2, n00, e00, t46, ik, hp, hle]
      exact lt _ _ rfl rfl rfl rfl rfl rfl rfl rfl st
    case pos =>
      obtain ⟨eB, hB⟩ : ∃ eB, eB = ((pn : Int) == (k : Int)) := ⟨_, rfl⟩
      have hfin : eno C pn L = eB := by
        rw [hB]
        by_cases c : pn = k
        · subst c; simp [hq]
        · have := hbe pn (by omega); rw [this]; symm; simp; omega
      obtain ⟨w, hw⟩ : ∃ w, w = resL (kL C pn) := ⟨_, rfl⟩
      have r9 := resL_is (kL C (pn : Int))
      rw [← hw] at r9 h23
      have l9 : (((kL C (pn : Int)).length : Nat) : Int) = (L.length : Int) := by rw [kL_len, hLC]
      have l9n : ((L.length : Int) != (L.length : Int)) = false := by simp
      simp (disch := first | assumption | omega | (simp only [az]; done)) only [ru, eq_self, if_true, if_false, BEq.rfl, binI, AO.row?, splice, fillL, mmAll, loadV, storeV, zeros, Am.rowAt, Am.part, addOff, Nat.reduceAdd, Nat.reduceMul, Nat.reduceLeDiff, Nat.reduceSub, Nat.reduceLT, Int.reduceEq, Int.reduceLT, Int.reduceLE, Int.reduceGT, Int.reduceGE, Int.reduceAdd, Int.reduceSub, Int.reduceMul, Int.reduceNeg, Int.reduceToNat, reduceCtorEq, reduceIte, fq, sq, f13, lenV_sl hv, view_sl hv, scalar_sl hv, cells_sl hv, pure_sl hv, lenV_sl V, elem_in V, view_sl V, scalar_sl V, cells_sl V, pure_sl V, Int.toNat_natCast, lenV_sl r9, elem_in r9, view_sl r9, scalar_sl r9, cells_sl r9, pure_sl r9, Int.toNat_natCast, t45r hv, hr, Bool.not_true, gUn, h40, decide_false, t56 hv V hL, hc, hideN, hideC, GO_mload, GO_mapp, unhN, unhC, A, vwS, h35, f1, f2, n00, e00, ik, hle, t46, hp, h23, l9, l9n]
      refine G_loop_ind (fun y ts hk mk => ∃ i : Nat, i ≤ L.length ∧ y = L.length - i ∧ hk = [.cells [v] false, .cells [I mt, I mn, I pn] false, x0, x1] ∧ ts.length = 155 ∧ ts.getD 1 .undef = lv ∧ ts.getD 3 .undef = .ptr 0 0 ∧ ts.getD 5 .undef = .ptr 1 0 ∧ ts.getD 7 .undef = I k ∧ ts.getD 8 .undef = I 0 ∧ ts.getD 9 .undef = w ∧ ts.getD 11 .undef = Bo ((List.range i).all fun j => decide (L.getD j 0 ≤ kK C pn j)) ∧ ts.getD 12 .undef = I i ∧ mk = []) ?_ L.length _ _ _ ⟨0, Nat.zero_le _, rfl, rfl, rfl, rfl, rfl, rfl, rfl, rfl, rfl, rfl, rfl, rfl⟩
      rintro y ts hk mk ih ⟨i, hi, rfl, rfl, hl', q1, q3, q5, q7, q8, q9, q11, q12, rfl⟩
      obtain ⟨b, hb⟩ : ∃ b, b = (List.range i).all fun j => decide (L.getD j 0 ≤ kK C pn j) := ⟨_, rfl⟩
      rw [← hb] at q11
      rw [lit_all hl']
      simp only [lit0, litS, Nat.reduceAdd, q1, q3, q5, q7, q8, q9, q11, q12]
      by_cases hlt : (i : Int) < L.length
      · have nx : (List.range (i + 1)).all (fun j => decide (L.getD j 0 ≤ kK C pn j)) = (b && decide (L.getD i 0 ≤ kK C pn i)) := by rw [hb]; simp [List.range_succ]
        have kat := kL_at (C := C) (p := (pn : Int)) (j := i) (by omega)
        have ge : decide (kK C pn i ≥ L.getD i 0) = decide (L.getD i 0 ≤ kK C pn i) := rfl
        have lt9 : (i : Int) < ((kL C (pn : Int)).length : Int) := by rw [kL_len, ← hLC]; exact hlt
        cases b
        · simp (disch := first | assumption | omega | (simp only [az]; done)) only [ru, eq_self, if_true, if_false, BEq.rfl, binI, AO.row?, splice, fillL, mmAll, loadV, storeV, zeros, Am.rowAt, Am.part, addOff, Nat.reduceAdd, Nat.reduceMul, Nat.reduceLeDiff, Nat.reduceSub, Nat.reduceLT, Int.reduceEq, Int.reduceLT, Int.reduceLE, Int.reduceGT, Int.reduceGE, Int.reduceAdd, Int.reduceSub, Int.reduceMul, Int.reduceNeg, Int.reduceToNat, reduceCtorEq, reduceIte, lenV_sl V, elem_in V, view_sl V, scalar_sl V, cells_sl V, pure_sl V, Int.toNat_natCast, lenV_sl r9, elem_in r9, view_sl r9, scalar_sl r9, cells_sl r9, pure_sl r9, Int.toNat_natCast, l9, hlt]
          exact ih (L.length - (i + 1)) _ _ _ (by omega) ⟨i + 1, by omega, rfl, rfl, rfl, rfl, rfl, rfl, rfl, rfl, rfl, by rw [nx]; rfl, rfl, rfl⟩
        · simp (disch := first | assumption | omega | (simp only [az]; done)) only [ru, eq_self, if_true, if_false, BEq.rfl, binI, AO.row?, splice, fillL, mmAll, loadV, storeV, zeros, Am.rowAt, Am.part, addOff, Nat.reduceAdd, Nat.reduceMul, Nat.reduceLeDiff, Nat.reduceSub, Nat.reduceLT, Int.reduceEq, Int.reduceLT, Int.reduceLE, Int.reduceGT, Int.reduceGE, Int.reduceAdd, Int.reduceSub, Int.reduceMul, Int.reduceNeg, Int.reduceToNat, reduceCtorEq, reduceIte, lenV_sl V, elem_in V, view_sl V, scalar_sl V, cells_sl V, pure_sl V, Int.toNat_natCast, lenV_sl r9, elem_in r9, view_sl r9, scalar_sl r9, cells_sl r9, pure_sl r9, Int.toNat_natCast, l9, hlt, lt9, kat, ge]
          exact ih (L.length - (i + 1)) _ _ _ (by omega) ⟨i + 1, by omega, rfl, rfl, rfl, rfl, rfl, rfl, rfl, rfl, rfl, by rw [nx]; rfl, rfl, rfl⟩
      · obtain rfl : i = L.length := by omega
        have hbe : b = eno C pn L := hb
        rw [hfin] at hbe
        clear hb
        subst hbe
        cases b
        all_goals
          simp (disch := first | assumption | omega | (simp only [az]; done)) only [ru, eq_self, if_true, if_false, BEq.rfl, binI, AO.row?, splice, fillL, mmAll, loadV, storeV, zeros, Am.rowAt, Am.part, addOff, Nat.reduceAdd, Nat.reduceMul, Nat.reduceLeDiff, Nat.reduceSub, Nat.reduceLT, Int.reduceEq, Int.reduceLT, Int.reduceLE, Int.reduceGT, Int.reduceGE, Int.reduceAdd, Int.reduceSub, Int.reduceMul, Int.reduceNeg, Int.reduceToNat, reduceCtorEq, reduceIte, hlt, lenV_sl r9, elem_in r9, view_sl r9, scalar_sl r9, cells_sl r9, pure_sl r9, Int.toNat_natCast, l9, e00, ← hB]
          exact lt _ _ rfl rfl rfl rfl rfl rfl rfl rfl st
  · rw [f1, f2] at lt
    · have hfin : eno C pn L = false := hbe pn (by omega)
      obtain ⟨w, hw⟩ : ∃ w, w = resL (kL C pn) := ⟨_, rfl⟩
      have r9 := resL_is (kL C (pn : Int))
      rw [← hw] at r9 h23
      have l9 : (((kL C (pn : Int)).length : Nat) : Int) = (L.length : Int) := by rw [kL_len, hLC]
      have l9n : ((L.length : Int) != (L.length : Int)) = false := by simp
      simp (disch := first | assumption | omega | (simp only [az]; done)) only [ru, eq_self, if_true, if_false, BEq.rfl, binI, AO.row?, splice, fillL, mmAll, loadV, storeV, zeros, Am.rowAt, Am.part, addOff, Nat.reduceAdd, Nat.reduceMul, Nat.reduceLeDiff, Nat.reduceSub, Nat.reduceLT, Int.reduceEq, Int.reduceLT, Int.reduceLE, Int.reduceGT, Int.reduceGE, Int.reduceAdd, Int.reduceSub, Int.reduceMul, Int.reduceNeg, Int.reduceToNat, reduceCtorEq, reduceIte, fq, sq, f13, lenV_sl hv, view_sl hv, scalar_sl hv, cells_sl hv, pure_sl hv, lenV_sl V, elem_in V, view_sl V, scalar_sl V, cells_sl V, pure_sl V, Int.toNat_natCast, lenV_sl r9, elem_in r9, view_sl r9, scalar_sl r9, cells_sl r9, pure_sl r9, Int.toNat_natCast, t45r hv, hr, Bool.not_true, gUn, h40, decide_false, t56 hv V hL, hc, hideN, hideC, GO_mload, GO_mapp, unhN, unhC, A, vwS, h35, f1, f2, n33, n30, e30, t46, hp, h23, l9, l9n]
      refine G_loop_ind (fun y ts hk mk => ∃ i : Nat, i ≤ L.length ∧ y = L.length - i ∧ hk = [.cells [v] false, .cells [I mt, I mn, I pn] false, x0, x1] ∧ ts.length = 155 ∧ ts.getD 1 .undef = lv ∧ ts.getD 3 .undef = .ptr 0 0 ∧ ts.getD 5 .undef = .ptr 1 0 ∧ ts.getD 7 .undef = I 0 ∧ ts.getD 8 .undef = I 3 ∧ ts.getD 9 .undef = w ∧ ts.getD 11 .undef = Bo ((List.range i).all fun j => decide (L.getD j 0 ≤ kK C pn j)) ∧ ts.getD 12 .undef = I i ∧ mk = []) ?_ L.length _ _ _ ⟨0, Nat.zero_le _, rfl, rfl, rfl, rfl, rfl, rfl, rfl, rfl, rfl, rfl, rfl, rfl⟩
      rintro y ts hk mk ih ⟨i, hi, rfl, rfl, hl', q1, q3, q5, q7, q8, q9, q11, q12, rfl⟩
      obtain ⟨b, hb⟩ : ∃ b, b = (List.range i).all fun j => decide (L.getD j 0 ≤ kK C pn j) := ⟨_, rfl⟩
      rw [← hb] at q11
      rw [lit_all hl']
      simp only [lit0, litS, Nat.reduceAdd, q1, q3, q5, q7, q8, q9, q11, q12]
      by_cases hlt : (i : Int) < L.length
      · have nx : (List.range (i + 1)).all (fun j => decide (L.getD j 0 ≤ kK C pn j)) = (b && decide (L.getD i 0 ≤ kK C pn i)) := by rw [hb]; simp [List.range_succ]
        have kat := kL_at (C := C) (p := (pn : Int)) (j := i) (by omega)
        have ge : decide (kK C pn i ≥ L.getD i 0) = decide (L.getD i 0 ≤ kK C pn i) := rfl
        have lt9 : (i : Int) < ((kL C (pn : Int)).length : Int) := by rw [kL_len, ← hLC]; exact hlt
        cases b
        · simp (disch := first | assumption | omega | (simp only [az]; done)) only [ru, eq_self, if_true, if_false, BEq.rfl, binI, AO.row?, splice, fillL, mmAll, loadV, storeV, zeros, Am.rowAt, Am.part, addOff, Nat.reduceAdd, Nat.reduceMul, Nat.reduceLeDiff, Nat.reduceSub, Nat.reduceLT, Int.reduceEq, Int.reduceLT, Int.reduceLE, Int.reduceGT, Int.reduceGE, Int.reduceAdd, Int.reduceSub, Int.reduceMul, Int.reduceNeg, Int.reduceToNat, reduceCtorEq, reduceIte, lenV_sl V, elem_in V, view_sl V, scalar_sl V, cells_sl V, pure_sl V, Int.toNat_natCast, lenV_sl r9, elem_in r9, view_sl r9, scalar_sl r9, cells_sl r9, pure_sl r9, Int.toNat_natCast, l9, hlt]
          exact ih (L.length - (i + 1)) _ _ _ (by omega) ⟨i + 1, by omega, rfl, rfl, rfl, rfl, rfl, rfl, rfl, rfl, rfl, by rw [nx]; rfl, rfl, rfl⟩
        · simp (disch := first | assumption | omega | (simp only [az]; done)) only [ru, eq_self, if_true, if_false, BEq.rfl, binI, AO.row?, splice, fillL, mmAll, loadV, storeV, zeros, Am.rowAt, Am.part, addOff, Nat.reduceAdd, Nat.reduceMul, Nat.reduceLeDiff, Nat.reduceSub, Nat.reduceLT, Int.reduceEq, Int.reduceLT, Int.reduceLE, Int.reduceGT, Int.reduceGE, Int.reduceAdd, Int.reduceSub, Int.reduceMul, Int.reduceNeg, Int.reduceToNat, reduceCtorEq, reduceIte, lenV_sl V, elem_in V, view_sl V, scalar_sl V, cells_sl V, pure_sl V, Int.toNat_natCast, lenV_sl r9, elem_in r9, view_sl r9, scalar_sl r9, cells_sl r9, pure_sl r9, Int.toNat_natCast, l9, hlt, lt9, kat, ge]
          exact ih (L.length - (i + 1)) _ _ _ (by omega) ⟨i + 1, by omega, rfl, rfl, rfl, rfl, rfl, rfl, rfl, rfl, rfl, by rw [nx]; rfl, rfl, rfl⟩
      · obtain rfl : i = L.length := by omega
        have hbe : b = eno C pn L := hb
        rw [hfin] at hbe
        clear hb
        subst hbe
        simp (disch := first | assumption | omega | (simp only [az]; done)) only [ru, eq_self, if_true, if_false, BEq.rfl, binI, AO.row?, splice, fillL, mmAll, loadV, storeV, zeros, Am.rowAt, Am.part, addOff, Nat.reduceAdd, Nat.reduceMul, Nat.reduceLeDiff, Nat.reduceSub, Nat.reduceLT, Int.reduceEq, Int.reduceLT, Int.reduceLE, Int.reduceGT, Int.reduceGE, Int.reduceAdd, Int.reduceSub, Int.reduceMul, Int.reduceNeg, Int.reduceToNat, reduceCtorEq, reduceIte, hlt, lenV_sl r9, elem_in r9, view_sl r9, scalar_sl r9, cells_sl r9, pure_sl r9, Int.toNat_natCast, l9, e30]
        exact lt _ _ rfl rfl rfl rfl rfl rfl rfl rfl st
end
end Go.Proofs.Ytaeijjfgfenfhaa.S

