import Derived.Test.YtpflneddfhifkaaSa
namespace Go.Proofs.Ytpflneddfhifkaa.S
open Go Go.Am Go.Proofs.Ytpflneddfhifkaa.T
set_option maxRecDepth 100000
set_option linter.unusedSimpArgs false
set_option linter.unusedVariables false



/-- a list of numbers, as it is handed back -/
def resL (l : List Int) : AV := if l = [] then .nils else .cs 1 l.length (l.flatMap fun n => [I n])
theorem resL_is (l : List Int) : IsSl 1 (fun n => [I n]) l (resL l) := by
  unfold resL; split
  · rename_i h; exact .inr ⟨rfl, h⟩
  · exact .inl rfl

/-- a list that is being made, in the heap behind the first objects -/
def OutSl (b : Nat) (h : List AO) (v : AV) (l : List Int) : Prop := (l = [] ∧ v = .nils) ∨ (l ≠ [] ∧ ∃ o, b ≤ o ∧ v = .ms 1 o 0 l.length ∧ h[o]? = some (.cells (l.flatMap fun n => [I n]) false))

theorem flat1 (l : List Int) : (l.flatMap fun n => [I n]).length = l.length := by
  have := flat_len (enc := fun n : Int => [I n]) (esz := 1) (fun _ => rfl) l
  omega
theorem out_app {pre J : List AO} {v : AV} {l : List Int} {lim : Nat} (H : OutSl pre.length (pre ++ J) v l) (hlim : lim ≤ pre.length) (hl : l.length ≤ 1000000) (i : Int) :
    ∃ v' J', appV lim (pre ++ J) 1 8 v (.cs 1 1 [I i]) = some (v', pre ++ J') ∧ OutSl pre.length (pre ++ J') v' (l ++ [i]) := by
  rcases H with ⟨rfl, rfl⟩ | ⟨hne, o, ho, rfl, hc⟩
  · refine ⟨_, J ++ [AO.cells [I i] false], ?_, .inr ⟨by simp, (pre ++ J).length, by simp, rfl, ?_⟩⟩
    · rw [appV_nil (n := 1) (xs := [I i]) rfl rfl rfl rfl (by omega) (by omega), if_neg (by omega)]
      simp
    · simp only [← List.append_assoc]
      exact atE
  · have ho' : o < (pre ++ J).length := (List.getElem?_eq_some_iff.1 hc).1
    refine ⟨_, J.set (o - pre.length) .tomb ++ [AO.cells ((l ++ [i]).flatMap fun n => [I n]) false], ?_, .inr ⟨by simp, (pre ++ J).length, by simp, rfl, ?_⟩⟩
    · rw [appV_ms (n := 1) (xs := [I i]) (c := l.flatMap fun n => [I n]) (sh := false) hc (by rw [flat1]; omega) rfl rfl rfl rfl (by omega) (by omega) (by omega), if_neg (by omega)]
      rw [List.set_append_right _ _ ho]
      simp
    · have e : (pre ++ J).length = (pre ++ J.set (o - pre.length) .tomb).length := by simp
      rw [e, ← List.append_assoc]
      exact atE

theorem out_view {b : Nat} {h : List AO} {v : AV} {l : List Int} (H : OutSl b h v l) {st : Bool} : view st h 8 v = some (resL l) := by
  rcases H with ⟨rfl, rfl⟩ | ⟨hne, o, ho, rfl, hc⟩
  · rfl
  · have e : (l.flatMap fun n => [I n]).take (l.length * 1) = l.flatMap fun n => [I n] := List.take_of_length_le (by rw [flat1]; omega)
    rw [Nat.mul_one] at e
    simp only [view_ms, rowOf_ms, Am.rowAt, hc, Option.bind_some, AO.row?, List.drop_zero, Nat.mul_one, e, flat1, if_true, resL, hne, if_false]
    rw [flat_view (enc := fun n : Int => [I n]) (fun a x hx => ⟨_, _, by simpa using hx⟩)]
    rfl
theorem out_len {b : Nat} {h : List AO} {v : AV} {l : List Int} (H : OutSl b h v l) : lenV v = some (I l.length) := by
  rcases H with ⟨rfl, rfl⟩ | ⟨hne, o, ho, rfl, hc⟩ <;> rfl

/-- the first i of the numbers that are such -/
def upto (p : Nat → Bool) (i : Nat) : List Int := ((List.range i).filter p).map fun (i : Nat) => (i : Int)
theorem upto_yes {p : Nat → Bool} {i : Nat} (h : p i = true) : upto p (i + 1) = upto p i ++ [(i : Int)] := by
  simp [upto, List.range_succ, List.filter_append, h]
theorem upto_no {p : Nat → Bool} {i : Nat} (h : p i = false) : upto p (i + 1) = upto p i := by
  simp [upto, List.range_succ, List.filter_append, h]
theorem upto_len {p : Nat → Bool} {i : Nat} : (upto p i).length ≤ i := by
  simp only [upto, List.length_map]; exact Nat.le_trans (List.length_filter_le _ _) (by simp)

theorem s83 {n : Net} {g a w : AV} (H : NetOk n g a w) {t : Tru} {v : AV} (V : TruOk t v) (G : Fair n t) {L : List Int} {d : AV} (D : IsSl 1 (fun n => [I n]) L d) (hL : L.length ≤ 1000000) (st : Bool) :
    Iso E 83 [netV n g a w, .agg [I t.wind, I t.cur, v], d] st = some (resL (lst n (stepS n t fun j => anyIs L j))) := by
  have sa := H.sa
  obtain ⟨p, hp⟩ : ∃ p, p = stepS n t fun j => anyIs L (j : Nat) := ⟨_, rfl⟩
  rw [← hp]
  refine Iso_of (es _ _ _ _) e83 ?_
  simp only [f83, netV]
  simp (disch := first | assumption | omega | (simp only [az]; done)) only [ru, eq_self, if_true, if_false, BEq.rfl, binI, AO.row?, splice, fillL, mmAll, loadV, storeV, zeros, Am.rowAt, Am.part, addOff, Nat.reduceAdd, Nat.reduceMul, Nat.reduceLeDiff, Nat.reduceSub, Nat.reduceLT, Int.reduceEq, Int.reduceLT, Int.reduceLE, Int.reduceGT, Int.reduceGE, Int.reduceAdd, Int.reduceSub, Int.reduceMul, Int.reduceNeg, Int.reduceToNat, reduceCtorEq, reduceIte]
  refine G_loop_ind (fun m ts h mk => ∃ (i : Nat) (J : List AO) (o : AV), i ≤ n.ancs.length ∧ m = n.ancs.length - i ∧ ts.length = 36 ∧ ts.getD 2 .undef = d ∧
    ts.getD 3 .undef = .ptr 0 0 ∧ ts.getD 4 .undef = .ptr 1 0 ∧ ts.getD 7 .undef = o ∧ ts.getD 8 .undef = I i ∧ OutSl 2 (.cells [I n.wind.lo, I n.wind.hi, I n.cur.lo, I n.cur.hi, g, a, w] false :: .cells [I t.wind, I t.cur, v] false :: J) o (upto p i) ∧ h = .cells [I n.wind.lo, I n.wind.hi, I n.cur.lo, I n.cur.hi, g, a, w] false :: .cells [I t.wind, I t.cur, v] false :: J ∧ mk = []) ?_ _ _ _ _
      ⟨0, [], .nils, Nat.zero_le _, rfl, rfl, rfl, rfl, rfl, rfl, rfl, .inl ⟨rfl, rfl⟩, rfl, rfl⟩
  rintro m ts h mk ih ⟨i, J, o, hi, rfl, hl, q2, q3, q4, q7, q8, ho, rfl, rfl⟩
  rw [lit_all hl]
  simp only [lit0, litS, Nat.reduceAdd, q2, q3, q4, q7, q8]
  simp (disch := first | assumption | omega | (simp only [az]; done)) only [ru, eq_self, if_true, if_false, BEq.rfl, binI, AO.row?, splice, fillL, mmAll, loadV, storeV, zeros, Am.rowAt, Am.part, addOff, Nat.reduceAdd, Nat.reduceMul, Nat.reduceLeDiff, Nat.reduceSub, Nat.reduceLT, Int.reduceEq, Int.reduceLT, Int.reduceLE, Int.reduceGT, Int.reduceGE, Int.reduceAdd, Int.reduceSub, Int.reduceMul, Int.reduceNeg, Int.reduceToNat, reduceCtorEq, reduceIte, lenV_sl H.g, lenV_sl H.a, lenV_sl H.w, elem_sl Spn.el H.g, elem_sl Anc.el H.a, elem_sl Wal.el H.w, view_sl H.g, view_sl H.a, view_sl H.w, scalar_sl H.g, scalar_sl H.a, scalar_sl H.w, cells_sl H.g, cells_sl H.a, cells_sl H.w, pure_sl H.g, pure_sl H.a, pure_sl H.w, Spn.e, Anc.e, Wal.e, Spn.eta, Anc.eta, Wal.eta, Int.toNat_natCast]
  by_cases hlt : (i : Int) < n.ancs.length
  case pos =>
    have hlt' : i < n.ancs.length := by omega
    have B := s104 H V G D hL hlt'
    have C := s103 H V G hlt'
    have S := s56 D hL
    simp (disch := first | assumption | omega | (simp only [az]; done)) only [ru, eq_self, if_true, if_false, BEq.rfl, binI, AO.row?, splice, fillL, mmAll, loadV, storeV, zeros, Am.rowAt, Am.part, addOff, Nat.reduceAdd, Nat.reduceMul, Nat.reduceLeDiff, Nat.reduceSub, Nat.reduceLT, Int.reduceEq, Int.reduceLT, Int.reduceLE, Int.reduceGT, Int.reduceGE, Int.reduceAdd, Int.reduceSub, Int.reduceMul, Int.reduceNeg, Int.reduceToNat, reduceCtorEq, reduceIte, hlt, S, lenV_sl H.g, lenV_sl H.a, lenV_sl H.w, elem_sl Spn.el H.g, elem_sl Anc.el H.a, elem_sl Wal.el H.w, view_sl H.g, view_sl H.a, view_sl H.w, scalar_sl H.g, scalar_sl H.a, scalar_sl H.w, cells_sl H.g, cells_sl H.a, cells_sl H.w, pure_sl H.g, pure_sl H.a, pure_sl H.w, Spn.e, Anc.e, Wal.e, Spn.eta, Anc.eta, Wal.eta, Int.toNat_natCast, lenV_sl V.s, elem_sl intE V.s, view_sl V.s, scalar_sl V.s, cells_sl V.s, pure_sl V.s, view_sl D]
    have pi : p i = (anyIs L i || drg n t i fun j => anyIs L (j : Nat)) := by rw [hp]; rfl
    obtain ⟨v', J', ha, ho'⟩ := out_app (pre := [.cells [I n.wind.lo, I n.wind.hi, I n.cur.lo, I n.cur.hi, g, a, w] false, .cells [I t.wind, I t.cur, v] false]) (J := J) (v := o) (l := upto p i) (lim := 0) ho (Nat.zero_le _) (by have := upto_len (p := p) (i := i); omega) (i : Int)
    simp only [apC, apN, lenS, len0, Nat.zero_add] at ha ho'
    cases hA : anyIs L i
    · simp (disch := first | assumption | omega | (simp only [az]; done)) only [ru, eq_self, if_true, if_false, BEq.rfl, binI, AO.row?, splice, fillL, mmAll, loadV, storeV, zeros, Am.rowAt, Am.part, addOff, Nat.reduceAdd, Nat.reduceMul, Nat.reduceLeDiff, Nat.reduceSub, Nat.reduceLT, Int.reduceEq, Int.reduceLT, Int.reduceLE, Int.reduceGT, Int.reduceGE, Int.reduceAdd, Int.reduceSub, Int.reduceMul, Int.reduceNeg, Int.reduceToNat, reduceCtorEq, reduceIte, hlt, lenV_sl H.g, lenV_sl H.a, lenV_sl H.w, elem_sl Spn.el H.g, elem_sl Anc.el H.a, elem_sl Wal.el H.w, view_sl H.g, view_sl H.a, view_sl H.w, scalar_sl H.g, scalar_sl H.a, scalar_sl H.w, cells_sl H.g, cells_sl H.a, cells_sl H.w, pure_sl H.g, pure_sl H.a, pure_sl H.w, Spn.e, Anc.e, Wal.e, Spn.eta, Anc.eta, Wal.eta, Int.toNat_natCast, lenV_sl V.s, elem_sl intE V.s, view_sl V.s, scalar_sl V.s, cells_sl V.s, pure_sl V.s, B, C, view_sl D]
      by_cases hd : bearsI n t i (fun j => anyIs L (j : Nat)) > canI n t i
      · have pt : p i = true := by rw [pi, hA, drg, decide_eq_true hd]; rfl
        simp (disch := first | assumption | omega | (simp only [az]; done)) only [ru, eq_self, if_true, if_false, BEq.rfl, binI, AO.row?, splice, fillL, mmAll, loadV, storeV, zeros, Am.rowAt, Am.part, addOff, Nat.reduceAdd, Nat.reduceMul, Nat.reduceLeDiff, Nat.reduceSub, Nat.reduceLT, Int.reduceEq, Int.reduceLT, Int.reduceLE, Int.reduceGT, Int.reduceGE, Int.reduceAdd, Int.reduceSub, Int.reduceMul, Int.reduceNeg, Int.reduceToNat, reduceCtorEq, reduceIte, hd, ha]
        exact ih (n.ancs.length - (i + 1)) _ _ _ (by omega) ⟨i + 1, J', v', by omega, rfl, rfl, rfl, rfl, rfl, rfl, rfl, by rw [upto_yes pt]; exact ho', rfl, rfl⟩
      · have pt : p i = false := by rw [pi, hA, drg, decide_eq_false hd]; rfl
        simp (disch := first | assumption | omega | (simp only [az]; done)) only [ru, eq_self, if_true, if_false, BEq.rfl, binI, AO.row?, splice, fillL, mmAll, loadV, storeV, zeros, Am.rowAt, Am.part, addOff, Nat.reduceAdd, Nat.reduceMul, Nat.reduceLeDiff, Nat.reduceSub, Nat.reduceLT, Int.reduceEq, Int.reduceLT, Int.reduceLE, Int.reduceGT, Int.reduceGE, Int.reduceAdd, Int.reduceSub, Int.reduceMul, Int.reduceNeg, Int.reduceToNat, reduceCtorEq, reduceIte, hd]
        exact ih (n.ancs.length - (i + 1)) _ _ _ (by omega) ⟨i + 1, J, o, by omega, rfl, rfl, rfl, rfl, rfl, rfl, rfl, by rw [upto_no pt]; exact ho, rfl, rfl⟩
    · have pt : p i = true := by rw [pi, hA]; rfl
      simp (disch := first | assumption | omega | (simp only [az]; done)) only [ru, eq_self, if_true, if_false, BEq.rfl, binI, AO.row?, splice, fillL, mmAll, loadV, storeV, zeros, Am.rowAt, Am.part, addOff, Nat.reduceAdd, Nat.reduceMul, Nat.reduceLeDiff, Nat.reduceSub, Nat.reduceLT, Int.reduceEq, Int.reduceLT, Int.reduceLE, Int.reduceGT, Int.reduceGE, Int.reduceAdd, Int.reduceSub, Int.reduceMul, Int.reduceNeg, Int.reduceToNat, reduceCtorEq, reduceIte, ha]
      exact ih (n.ancs.length - (i + 1)) _ _ _ (by omega) ⟨i + 1, J', v', by omega, rfl, rfl, rfl, rfl, rfl, rfl, rfl, by rw [upto_yes pt]; exact ho', rfl, rfl⟩
  obtain rfl : i = n.ancs.length := by omega
  simp (disch := first | assumption | omega | (simp only [az]; done)) only [ru, eq_self, if_true, if_false, BEq.rfl, binI, AO.row?, splice, fillL, mmAll, loadV, storeV, zeros, Am.rowAt, Am.part, addOff, Nat.reduceAdd, Nat.reduceMul, Nat.reduceLeDiff, Nat.reduceSub, Nat.reduceLT, Int.reduceEq, Int.reduceLT, Int.reduceLE, Int.reduceGT, Int.reduceGE, Int.reduceAdd, Int.reduceSub, Int.reduceMul, Int.reduceNeg, Int.reduceToNat, reduceCtorEq, reduceIte, hlt]
  exact out_view ho
end Go.Proofs.Ytpflneddfhifkaa.S
