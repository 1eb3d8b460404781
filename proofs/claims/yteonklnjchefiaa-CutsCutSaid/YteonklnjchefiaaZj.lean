/-
The specification: the best cut, Cut and Gain; the law CutsCut.
-/
import Derived.Test.YteonklnjchefiaaZi
namespace Go.Proofs.Yteonklnjchefiaa.S
open Go Go.Am Go.Proofs.Yteonklnjchefiaa.T
set_option maxRecDepth 100000
set_option linter.unusedSimpArgs false
set_option linter.unusedVariables false

section
variable {t : List Pt} {v : AV}
/-- all rising lists, the shorter ones first -/
def cutsI (n k : Nat) : List (List Int) := (List.range k).flatMap fun m => enm qI n m []
theorem cutsI_succ {n k : Nat} : cutsI n (k + 1) = cutsI n k ++ enm qI n k [] := by simp [cutsI, List.range_succ]
theorem mem_cutsI {l : List Int} (h : cutB t l = true) : l ∈ cutsI t.length (t.length + 1) := by
  have h1 : okE qI t.length l := okE_mono (fun F i hq => by
    unfold qC at hq
    unfold qI
    rw [Bool.and_eq_true] at hq
    exact hq.2) (okE_cut.2 h)
  simp only [cutsI, List.mem_flatMap, List.mem_range]
  exact ⟨l.length, by have := cut_len h; omega, (mem_enm okE_nil).2 ⟨h1, l, rfl, rfl⟩⟩
/-- the best one of some lists, so far -/
structure Bst (t : List Pt) (D : List (List Int)) (c : List Int) : Prop where
  m : c ∈ D
  b : cutB t c = true
  a : ∀ l ∈ D, cutB t l = true → prc t l ≤ prc t c ∧ (prc t l = prc t c → bef l c = false)
theorem bef_self (l : List Int) : bef l l = false := by
  cases h : bef l l
  · rfl
  · have := bef_asym h; rw [h] at this; cases this
theorem Bst.no {D : List (List Int)} {c x : List Int} (B : Bst t D c) (hx : cutB t x = false) : Bst t (D ++ [x]) c :=
  ⟨by simp [B.m], B.b, fun l hl hc => by
    rcases List.mem_append.1 hl with hl | hl
    · exact B.a l hl hc
    · rw [List.mem_singleton] at hl; subst hl; rw [hx] at hc; cases hc⟩
theorem Bst.old {D : List (List Int)} {c x : List Int} (B : Bst t D c) (hb : ∀ l ∈ D, bef l x = true) (hp : ¬ prc t x > prc t c) : Bst t (D ++ [x]) c :=
  ⟨by simp [B.m], B.b, fun l hl hc => by
    rcases List.mem_append.1 hl with hl | hl
    · exact B.a l hl hc
    · rw [List.mem_singleton] at hl; subst hl
      exact ⟨by omega, fun _ => bef_asym (hb c B.m)⟩⟩
theorem Bst.new {D : List (List Int)} {c x : List Int} (B : Bst t D c) (hx : cutB t x = true) (hp : prc t x > prc t c) : Bst t (D ++ [x]) x :=
  ⟨by simp, hx, fun l hl hc => by
    rcases List.mem_append.1 hl with hl | hl
    · have := (B.a l hl hc).1
      exact ⟨by omega, fun e => by omega⟩
    · rw [List.mem_singleton] at hl; subst hl
      exact ⟨Int.le_refl _, fun _ => bef_self _⟩⟩
theorem Bst.fin {c : List Int} (B : Bst t (cutsI t.length (t.length + 1)) c) : c = bcut t := by
  obtain ⟨h1, h2⟩ := best_spec2 (t := t)
  have a1 := B.a _ (mem_cutsI h1) h1
  have a2 := h2 c B.b
  exact bef_tot (a2.2 (by omega)) (a1.2 (by omega))
theorem bef_more {n m : Nat} {x : List Int} (hx : x ∈ enm qI n m []) : ∀ l ∈ cutsI n m, bef l x = true := by
  intro l hl
  simp only [cutsI, List.mem_flatMap, List.mem_range] at hl
  obtain ⟨j, hj, hl⟩ := hl
  have h1 := enm_l hx
  have h2 := enm_l hl
  simp only [List.length_nil, Nat.zero_add] at h1 h2
  simp only [bef, Bool.or_eq_true, decide_eq_true_eq]
  left; omega
theorem bef_same {n m i : Nat} (hi : i < (enm qI n m []).length) : ∀ l ∈ (enm qI n m []).take i, bef l ((enm qI n m []).getD i []) = true := by
  intro l hl
  obtain ⟨j, hj, rfl⟩ := List.mem_iff_getElem.1 hl
  rw [List.length_take] at hj
  rw [List.getElem_take]
  have hs := (enm_sorted (q := qI) (k := n) (d := m) (F := []))
  rw [List.pairwise_iff_getElem] at hs
  have h1 := hs j i (by omega) hi (by omega)
  have h2 := enm_l (List.getElem_mem (show j < (enm qI n m []).length by omega))
  have h3 := enm_l (List.getElem_mem hi)
  rw [List.getD_eq_getElem?_getD, List.getElem?_eq_getElem hi, Option.getD_some]
  simp only [bef, Bool.or_eq_true, Bool.and_eq_true, decide_eq_true_eq]
  right
  exact ⟨by omega, h1⟩
set_option maxHeartbeats 4000000 in
theorem s99 (H : TbOk t v) (T : TW t) (h1 : is1 t = true) : Iso E 99 [v] false = some (.tup [resL (bcut t), I (prc t (bcut t))]) := by
  have n8 := T.n
  have VN : IsSl 1 intL [] .nils := .inr ⟨rfl, rfl⟩
  have price : ∀ {l : List Int} {w : AV}, IsSl 1 intL l w → l.length ≤ 1000 → ∃ u, (∀ st, Iso E 75 [v, w] st = some u) ∧ IsSl 1 intL (rPay t l) u ∧ ∀ st, Iso E 94 [v, u] st = some (.agg [I (prc t l), I (hiV t (rS t l))]) := fun {l w} V hl => by
    refine ⟨slV 1 intL (rPay t l), fun st => s75 H T V hl st, slV_is, fun st => s94 H T h1 (rS_b T) slV_is st⟩
  obtain ⟨u0, p1, p2, p3⟩ := price VN (by simp)
  refine Iso_of (es _ _ _ _) e99 ?_
  simp only [f99]
  have B0 : Bst t (cutsI t.length 1) [] := ⟨by simp [cutsI, enm], rfl, fun l hl _ => by
    have : l = [] := by simpa [cutsI, enm] using hl
    subst this; exact ⟨Int.le_refl _, fun _ => rfl⟩⟩
  simp (disch := first | assumption | omega | (simp only [az]; done)) only [ru, eq_self, if_true, if_false, BEq.rfl, binI, AO.row?, splice, fillL, mmAll, loadV, storeV, zeros, Am.rowAt, Am.part, addOff, Nat.reduceAdd, Nat.reduceMul, Nat.reduceLeDiff, Nat.reduceSub, Nat.reduceLT, Int.reduceEq, Int.reduceLT, Int.reduceLE, Int.reduceGT, Int.reduceGE, Int.reduceAdd, Int.reduceSub, Int.reduceMul, Int.reduceNeg, Int.reduceToNat, reduceCtorEq, reduceIte, lenV_sl H.i, elem_pt H.i, view_sl H.i, scalar_sl H.i, cells_sl H.i, pure_sl H.i, Int.toNat_natCast, lenV_sl p2, view_sl p2, scalar_sl p2, cells_sl p2, pure_sl p2, view_nils, p1, p3]
  refine G_loop_ind (fun z ts hh mk => ∃ (m : Nat) (c : List Int), 1 ≤ m ∧ m ≤ t.length + 1 ∧ z = t.length + 1 - m ∧ Bst t (cutsI t.length m) c ∧ hh = [] ∧ ts.length = 57 ∧ ts.getD 0 .undef = v ∧ ts.getD 4 .undef = resL c ∧ ts.getD 5 .undef = I (prc t c) ∧ ts.getD 6 .undef = I m ∧ mk = []) ?_ _ _ _ _
    ⟨1, [], Nat.le_refl _, by omega, rfl, B0, rfl, rfl, rfl, rfl, rfl, rfl, rfl⟩
  rintro z ts hh mk ih ⟨m, c, hm1, hm, rfl, B, rfl, hl', q0, q4, q5, q6, rfl⟩
  rw [lit_all hl']
  simp only [lit0, litS, Nat.reduceAdd, q0, q4, q5, q6]
  by_cases hlt : (m : Int) ≤ t.length
  case neg =>
    obtain rfl : m = t.length + 1 := by omega
    obtain rfl := B.fin
    have vb := fun h n => view_sl (resL_is (bcut t)) h n
    simp (disch := first | assumption | omega | (simp only [az]; done)) only [ru, eq_self, if_true, if_false, BEq.rfl, binI, AO.row?, splice, fillL, mmAll, loadV, storeV, zeros, Am.rowAt, Am.part, addOff, Nat.reduceAdd, Nat.reduceMul, Nat.reduceLeDiff, Nat.reduceSub, Nat.reduceLT, Int.reduceEq, Int.reduceLT, Int.reduceLE, Int.reduceGT, Int.reduceGE, Int.reduceAdd, Int.reduceSub, Int.reduceMul, Int.reduceNeg, Int.reduceToNat, reduceCtorEq, reduceIte, lenV_sl H.i, elem_pt H.i, view_sl H.i, scalar_sl H.i, cells_sl H.i, pure_sl H.i, Int.toNat_natCast, hlt, decide_false, vb]
    done
  have a124 := fun st => s124 (m := m) (k := t.length) n8 (by omega) st
  have ln := (enI_len (k := t.length) (d := m) (F := []) okE_nil).1
  have p2' := pow_256 (show t.length - frm [] ≤ 8 by omega)
  obtain ⟨L, hL⟩ : ∃ L, L = enm qI t.length m [] := ⟨_, rfl⟩
  obtain ⟨w, hw⟩ : ∃ w, w = resLL L := ⟨_, rfl⟩
  have W : IsSl 1 resE L w := by rw [hw]; exact resLL_is _
  rw [← hL] at a124 ln
  rw [← hw] at a124
  have ew := elem_ll W
  simp (disch := first | assumption | omega | (simp only [az]; done)) only [ru, eq_self, if_true, if_false, BEq.rfl, binI, AO.row?, splice, fillL, mmAll, loadV, storeV, zeros, Am.rowAt, Am.part, addOff, Nat.reduceAdd, Nat.reduceMul, Nat.reduceLeDiff, Nat.reduceSub, Nat.reduceLT, Int.reduceEq, Int.reduceLT, Int.reduceLE, Int.reduceGT, Int.reduceGE, Int.reduceAdd, Int.reduceSub, Int.reduceMul, Int.reduceNeg, Int.reduceToNat, reduceCtorEq, reduceIte, lenV_sl H.i, elem_pt H.i, view_sl H.i, scalar_sl H.i, cells_sl H.i, pure_sl H.i, Int.toNat_natCast, lenV_sl W, view_sl W, scalar_sl W, cells_sl W, pure_sl W, view_nils, hlt, decide_true, a124]
  refine G_loop_ind (fun z ts hh mk => ∃ (i : Nat) (c : List Int), i ≤ L.length ∧ z = L.length - i ∧ Bst t (cutsI t.length m ++ L.take i) c ∧ hh = [] ∧ ts.length = 57 ∧ ts.getD 0 .undef = v ∧ ts.getD 4 .undef = resL c ∧ ts.getD 5 .undef = I (prc t c) ∧ ts.getD 6 .undef = I m ∧ ts.getD 7 .undef = w ∧ ts.getD 8 .undef = I i ∧ mk = []) ?_ _ _ _ _
    ⟨0, c, Nat.zero_le _, rfl, by rw [List.take_zero, List.append_nil]; exact B, rfl, rfl, rfl, rfl, rfl, rfl, rfl, rfl, rfl⟩
  clear B c q4 q5
  rintro z ts hh mk ih2 ⟨i, c, hi, rfl, B, rfl, hl', q0, q4, q5, q6, q7, q8, rfl⟩
  rw [lit_all hl']
  simp only [lit0, litS, Nat.reduceAdd, q0, q4, q5, q6, q7, q8]
  by_cases hlt2 : (i : Int) < L.length
  case neg =>
    obtain rfl : i = L.length := by omega
    rw [List.take_length, hL, ← cutsI_succ] at B
    simp (disch := first | assumption | omega | (simp only [az]; done)) only [ru, eq_self, if_true, if_false, BEq.rfl, binI, AO.row?, splice, fillL, mmAll, loadV, storeV, zeros, Am.rowAt, Am.part, addOff, Nat.reduceAdd, Nat.reduceMul, Nat.reduceLeDiff, Nat.reduceSub, Nat.reduceLT, Int.reduceEq, Int.reduceLT, Int.reduceLE, Int.reduceGT, Int.reduceGE, Int.reduceAdd, Int.reduceSub, Int.reduceMul, Int.reduceNeg, Int.reduceToNat, reduceCtorEq, reduceIte, lenV_sl W, view_sl W, scalar_sl W, cells_sl W, pure_sl W, hlt2, decide_false]
    exact ih (t.length + 1 - (m + 1)) _ _ _ (by omega) ⟨m + 1, c, by omega, by omega, rfl, B, rfl, rfl, rfl, rfl, rfl, rfl, rfl⟩
  have hi2 : i < L.length := by omega
  have e1 := ew (i : Int) (by omega) hlt2
  rw [Int.toNat_natCast] at e1
  have tk : L.take (i + 1) = L.take i ++ [L.getD i []] := take_snoc hi2
  have bf : ∀ l ∈ cutsI t.length m ++ L.take i, bef l (L.getD i []) = true := fun l hl => by
    rcases List.mem_append.1 hl with hl | hl
    · refine bef_more ?_ l hl
      rw [← hL, List.getD_eq_getElem?_getD, List.getElem?_eq_getElem hi2]; exact List.getElem_mem hi2
    · rw [hL] at hl hi2 ⊢
      exact bef_same hi2 l hl
  have xl : (L.getD i []).length = m := by
    have : L.getD i [] ∈ enm qI t.length m [] := by rw [← hL, List.getD_eq_getElem?_getD, List.getElem?_eq_getElem hi2]; exact List.getElem_mem hi2
    simpa using enm_l this
  obtain ⟨x, hx⟩ : ∃ x, x = L.getD i [] := ⟨_, rfl⟩
  rw [← hx] at e1 tk bf xl
  have XV := resL_is x
  obtain ⟨xv, hxv⟩ : ∃ xv, xv = resL x := ⟨_, rfl⟩
  rw [← hxv] at e1 XV
  have a47 := fun st => s47 H T.toTG XV (by omega) st
  obtain ⟨u, r1, r2, r3⟩ := price XV (by omega)
  cases hc : cutB t x
  · rw [hc] at a47
    simp (disch := first | assumption | omega | (simp only [az]; done)) only [ru, eq_self, if_true, if_false, BEq.rfl, binI, AO.row?, splice, fillL, mmAll, loadV, storeV, zeros, Am.rowAt, Am.part, addOff, Nat.reduceAdd, Nat.reduceMul, Nat.reduceLeDiff, Nat.reduceSub, Nat.reduceLT, Int.reduceEq, Int.reduceLT, Int.reduceLE, Int.reduceGT, Int.reduceGE, Int.reduceAdd, Int.reduceSub, Int.reduceMul, Int.reduceNeg, Int.reduceToNat, reduceCtorEq, reduceIte, lenV_sl H.i, elem_pt H.i, view_sl H.i, scalar_sl H.i, cells_sl H.i, pure_sl H.i, Int.toNat_natCast, lenV_sl W, view_sl W, scalar_sl W, cells_sl W, pure_sl W, lenV_sl XV, view_sl XV, scalar_sl XV, cells_sl XV, pure_sl XV, hlt2, decide_true, e1, a47, Bool.not_false]
    exact ih2 (L.length - (i + 1)) _ _ _ (by omega) ⟨i + 1, c, by omega, rfl, by rw [tk, ← List.append_assoc]; exact B.no hc, rfl, rfl, rfl, rfl, rfl, rfl, rfl, rfl, rfl⟩
  rw [hc] at a47
  obtain ⟨px, hpx⟩ : ∃ p, p = prc t x := ⟨_, rfl⟩
  obtain ⟨pc, hpc⟩ : ∃ p, p = prc t c := ⟨_, rfl⟩
  rw [← hpx] at r3
  rw [← hpc]
  by_cases hp : px > pc
  · simp (disch := first | assumption | omega | (simp only [az]; done)) only [ru, eq_self, if_true, if_false, BEq.rfl, binI, AO.row?, splice, fillL, mmAll, loadV, storeV, zeros, Am.rowAt, Am.part, addOff, Nat.reduceAdd, Nat.reduceMul, Nat.reduceLeDiff, Nat.reduceSub, Nat.reduceLT, Int.reduceEq, Int.reduceLT, Int.reduceLE, Int.reduceGT, Int.reduceGE, Int.reduceAdd, Int.reduceSub, Int.reduceMul, Int.reduceNeg, Int.reduceToNat, reduceCtorEq, reduceIte, lenV_sl H.i, elem_pt H.i, view_sl H.i, scalar_sl H.i, cells_sl H.i, pure_sl H.i, Int.toNat_natCast, lenV_sl W, view_sl W, scalar_sl W, cells_sl W, pure_sl W, lenV_sl XV, view_sl XV, scalar_sl XV, cells_sl XV, pure_sl XV, lenV_sl r2, view_sl r2, scalar_sl r2, cells_sl r2, pure_sl r2, hlt2, decide_true, decide_false, e1, a47, r1, r3, hp, Bool.not_true]
    exact ih2 (L.length - (i + 1)) _ _ _ (by omega) ⟨i + 1, x, by omega, rfl, by rw [tk, ← List.append_assoc]; exact B.new hc (by omega), rfl, rfl, rfl, by rw [← hxv]; rfl, by rw [← hpx]; rfl, rfl, rfl, rfl, rfl⟩
  · simp (disch := first | assumption | omega | (simp only [az]; done)) only [ru, eq_self, if_true, if_false, BEq.rfl, binI, AO.row?, splice, fillL, mmAll, loadV, storeV, zeros, Am.rowAt, Am.part, addOff, Nat.reduceAdd, Nat.reduceMul, Nat.reduceLeDiff, Nat.reduceSub, Nat.reduceLT, Int.reduceEq, Int.reduceLT, Int.reduceLE, Int.reduceGT, Int.reduceGE, Int.reduceAdd, Int.reduceSub, Int.reduceMul, Int.reduceNeg, Int.reduceToNat, reduceCtorEq, reduceIte, lenV_sl H.i, elem_pt H.i, view_sl H.i, scalar_sl H.i, cells_sl H.i, pure_sl H.i, Int.toNat_natCast, lenV_sl W, view_sl W, scalar_sl W, cells_sl W, pure_sl W, lenV_sl XV, view_sl XV, scalar_sl XV, cells_sl XV, pure_sl XV, lenV_sl r2, view_sl r2, scalar_sl r2, cells_sl r2, pure_sl r2, hlt2, decide_true, decide_false, e1, a47, r1, r3, hp, Bool.not_true]
    exact ih2 (L.length - (i + 1)) _ _ _ (by omega) ⟨i + 1, c, by omega, rfl, by rw [tk, ← List.append_assoc]; exact B.old bf (by omega), rfl, rfl, rfl, rfl, by rw [← hpc]; rfl, rfl, rfl, rfl, rfl⟩
theorem s63 (H : TbOk t v) : Iso E 63 [v] false = some (cutO t) := by
  have g := fun st => s91 H true st
  refine Iso_of (es _ _ _ _) e63 ?_
  simp only [f63, cutO]
  cases hv : tval t
  · simp only [knE, hv, Bool.false_eq_true, if_false] at g
    simp (disch := first | assumption | omega | (simp only [az]; done)) only [ru, eq_self, if_true, if_false, BEq.rfl, binI, AO.row?, splice, fillL, mmAll, loadV, storeV, zeros, Am.rowAt, Am.part, addOff, Nat.reduceAdd, Nat.reduceMul, Nat.reduceLeDiff, Nat.reduceSub, Nat.reduceLT, Int.reduceEq, Int.reduceLT, Int.reduceLE, Int.reduceGT, Int.reduceGE, Int.reduceAdd, Int.reduceSub, Int.reduceMul, Int.reduceNeg, Int.reduceToNat, reduceCtorEq, reduceIte, lenV_sl H.i, elem_pt H.i, view_sl H.i, scalar_sl H.i, cells_sl H.i, pure_sl H.i, Int.toNat_natCast, g, decide_true, decide_false, Bool.false_eq_true]
    done
  have T := tval_W hv
  cases h1 : is1 t
  · simp only [knE, hv, h1, Bool.false_eq_true, if_true, if_false] at g
    simp (disch := first | assumption | omega | (simp only [az]; done)) only [ru, eq_self, if_true, if_false, BEq.rfl, binI, AO.row?, splice, fillL, mmAll, loadV, storeV, zeros, Am.rowAt, Am.part, addOff, Nat.reduceAdd, Nat.reduceMul, Nat.reduceLeDiff, Nat.reduceSub, Nat.reduceLT, Int.reduceEq, Int.reduceLT, Int.reduceLE, Int.reduceGT, Int.reduceGE, Int.reduceAdd, Int.reduceSub, Int.reduceMul, Int.reduceNeg, Int.reduceToNat, reduceCtorEq, reduceIte, lenV_sl H.i, elem_pt H.i, view_sl H.i, scalar_sl H.i, cells_sl H.i, pure_sl H.i, Int.toNat_natCast, g, decide_true, decide_false, Bool.false_eq_true]
    done
  simp only [knE, hv, h1, Bool.false_eq_true, if_true, if_false] at g
  have a := s99 H T h1
  have BV := resL_is (bcut t)
  obtain ⟨bv, hbv⟩ : ∃ b, b = resL (bcut t) := ⟨_, rfl⟩
  rw [← hbv] at a BV ⊢
  simp (disch := first | assumption | omega | (simp only [az]; done)) only [ru, eq_self, if_true, if_false, BEq.rfl, binI, AO.row?, splice, fillL, mmAll, loadV, storeV, zeros, Am.rowAt, Am.part, addOff, Nat.reduceAdd, Nat.reduceMul, Nat.reduceLeDiff, Nat.reduceSub, Nat.reduceLT, Int.reduceEq, Int.reduceLT, Int.reduceLE, Int.reduceGT, Int.reduceGE, Int.reduceAdd, Int.reduceSub, Int.reduceMul, Int.reduceNeg, Int.reduceToNat, reduceCtorEq, reduceIte, lenV_sl H.i, elem_pt H.i, view_sl H.i, scalar_sl H.i, cells_sl H.i, pure_sl H.i, Int.toNat_natCast, lenV_sl BV, view_sl BV, scalar_sl BV, cells_sl BV, pure_sl BV, g, a, decide_true, decide_false]
  done
set_option maxHeartbeats 1000000 in
theorem s100 (H : TbOk t v) (T : TW t) {p : Nat} (hp : p < t.length) : Iso E 100 [v, I p] false = some (slV 6 Pt.e (drr t p)) := by
  have sp := H.n
  obtain ⟨o, H', hC, fr, ho, hc⟩ := c42 H []
  have gt := pt_get6 hp
  have pt : (t.flatMap Pt.e).take (p * 6) ++ I (t.getD p default).of :: I (t.getD p default).w.lo :: I (t.getD p default).w.hi :: I (t.getD p default).s.lo :: I (t.getD p default).s.hi :: I ((t.getD p default).p + 1) :: (t.flatMap Pt.e).drop (p * 6 + 6) = (drr t p).flatMap Pt.e := pt_put6 hp { t.getD p default with p := (t.getD p default).p + 1 }
  have xp := T.p p hp
  obtain ⟨x, hx⟩ : ∃ x, x = t.getD p default := ⟨_, rfl⟩
  rw [← hx] at gt pt xp
  obtain ⟨Z, hZ⟩ : ∃ Z, Z = t.flatMap Pt.e := ⟨_, rfl⟩
  have zl : Z.length = t.length * 6 := by rw [hZ, flat_len Pt.el]
  rw [← hZ] at gt pt hc
  have fit : p * 6 + 6 ≤ Z.length := by omega
  have ol := (List.getElem?_eq_some_iff.1 hc).1
  have plt : (p : Int) < t.length := by omega
  have oc : ∀ X : AO, (H' ++ [X])[o]? = some (.cells Z false) := fun X => by rw [at_ap ol]; exact hc
  have vw : ∀ (X : AO) k, view false ((H' ++ [X]).set o (.cells ((drr t p).flatMap Pt.e) false)) (k + 1) (.ms 6 o 0 t.length) = some (slV 6 Pt.e (drr t p)) := fun X k => by
    have := RdC.view (enc := Pt.e) (esz := 6) (l := drr t p) (h := (H' ++ [X]).set o (.cells ((drr t p).flatMap Pt.e) false)) (w := .ms 6 o 0 t.length) ⟨o, by rw [drr_len], by rw [List.getElem?_set_self (by simp; omega)]⟩ Pt.el Pt.iv (st := false) (k := k)
    exact this
  have vw7 := fun X => vw X 7
  refine Iso_of (es _ _ _ _) e100 ?_
  simp only [f100]
  simp (disch := first | assumption | omega | (simp only [az]; done)) only [ru, eq_self, if_true, if_false, BEq.rfl, binI, AO.row?, splice, fillL, mmAll, loadV, storeV, zeros, Am.rowAt, Am.part, addOff, Nat.reduceAdd, Nat.reduceMul, Nat.reduceLeDiff, Nat.reduceSub, Nat.reduceLT, Int.reduceEq, Int.reduceLT, Int.reduceLE, Int.reduceGT, Int.reduceGE, Int.reduceAdd, Int.reduceSub, Int.reduceMul, Int.reduceNeg, Int.reduceToNat, reduceCtorEq, reduceIte, lenV_sl H.i, elem_pt H.i, view_sl H.i, scalar_sl H.i, cells_sl H.i, pure_sl H.i, Int.toNat_natCast, exOp_call2, hC, elemAt_ms, plt, nn, Int.toNat_natCast, Nat.zero_add, hc, oc, gt, atE, setE, lenE, fit, List.append_assoc, pt, vw7]
set_option maxHeartbeats 2000000 in
theorem s64 (H : TbOk t v) (i : Int) (st : Bool) : Iso E 64 [v, I i] st = some (gaiR t i) := by
  have sp := H.n
  have g31 := fun st => s31 H i st
  have g := fun q st => s91 H q st
  refine Iso_of (es _ _ _ _) e64 ?_
  simp only [f64, gaiR]
  cases hv : tval t
  · simp only [knE, hv, Bool.false_eq_true, if_false] at g
    simp (disch := first | assumption | omega | (simp only [az]; done)) only [ru, eq_self, if_true, if_false, BEq.rfl, binI, AO.row?, splice, fillL, mmAll, loadV, storeV, zeros, Am.rowAt, Am.part, addOff, Nat.reduceAdd, Nat.reduceMul, Nat.reduceLeDiff, Nat.reduceSub, Nat.reduceLT, Int.reduceEq, Int.reduceLT, Int.reduceLE, Int.reduceGT, Int.reduceGE, Int.reduceAdd, Int.reduceSub, Int.reduceMul, Int.reduceNeg, Int.reduceToNat, reduceCtorEq, reduceIte, lenV_sl H.i, elem_pt H.i, view_sl H.i, scalar_sl H.i, cells_sl H.i, pure_sl H.i, Int.toNat_natCast, g31, g, decide_true, decide_false, Bool.false_eq_true]
    done
  obtain ⟨T, h99⟩ := tval_iff.1 hv
  have n8 := T.n
  cases hq : inR i 0 (t.length - 1)
  · simp only [hq] at g31
    simp only [knE, hv, if_true] at g
    simp (disch := first | assumption | omega | (simp only [az]; done)) only [ru, eq_self, if_true, if_false, BEq.rfl, binI, AO.row?, splice, fillL, mmAll, loadV, storeV, zeros, Am.rowAt, Am.part, addOff, Nat.reduceAdd, Nat.reduceMul, Nat.reduceLeDiff, Nat.reduceSub, Nat.reduceLT, Int.reduceEq, Int.reduceLT, Int.reduceLE, Int.reduceGT, Int.reduceGE, Int.reduceAdd, Int.reduceSub, Int.reduceMul, Int.reduceNeg, Int.reduceToNat, reduceCtorEq, reduceIte, lenV_sl H.i, elem_pt H.i, view_sl H.i, scalar_sl H.i, cells_sl H.i, pure_sl H.i, Int.toNat_natCast, g31, g, decide_true, decide_false, Bool.false_eq_true]
    done
  simp only [hq] at g31
  cases h1 : is1 t
  · simp only [knE, hv, h1, Bool.false_eq_true, if_true, if_false] at g
    simp (disch := first | assumption | omega | (simp only [az]; done)) only [ru, eq_self, if_true, if_false, BEq.rfl, binI, AO.row?, splice, fillL, mmAll, loadV, storeV, zeros, Am.rowAt, Am.part, addOff, Nat.reduceAdd, Nat.reduceMul, Nat.reduceLeDiff, Nat.reduceSub, Nat.reduceLT, Int.reduceEq, Int.reduceLT, Int.reduceLE, Int.reduceGT, Int.reduceGE, Int.reduceAdd, Int.reduceSub, Int.reduceMul, Int.reduceNeg, Int.reduceToNat, reduceCtorEq, reduceIte, lenV_sl H.i, elem_pt H.i, view_sl H.i, scalar_sl H.i, cells_sl H.i, pure_sl H.i, Int.toNat_natCast, g31, g, decide_true, decide_false, Bool.false_eq_true]
    done
  simp only [knE, hv, h1, Bool.false_eq_true, if_true, if_false] at g
  obtain ⟨i0, i1⟩ := inR_iff.1 hq
  obtain ⟨p, rfl⟩ : ∃ n : Nat, i = n := ⟨i.toNat, by omega⟩
  have hp : p < t.length := by omega
  have TD := drr_W T h99 hp
  have hD : is1 (drr t p) = true := by rw [drr_is1 T h99 hp]; exact h1
  have a100 := s100 H T hp
  have DV := slV_is (esz := 6) (enc := Pt.e) (l := drr t p)
  obtain ⟨dv, hdv⟩ : ∃ d, d = slV 6 Pt.e (drr t p) := ⟨_, rfl⟩
  rw [← hdv] at a100 DV
  have HD : TbOk (drr t p) dv := ⟨DV, by rw [drr_len]; omega⟩
  have a := s99 H T h1
  have b := s99 HD TD hD
  have BV := resL_is (bcut t)
  have CV := resL_is (bcut (drr t p))
  have b1 := prc_nn T h1 (l := bcut t)
  have b2 := prc_le T h1 (l := bcut t)
  have b3 := prc_nn TD hD (l := bcut (drr t p))
  have b4 := prc_le TD hD (l := bcut (drr t p))
  simp only [gain, Int.toNat_natCast]
  obtain ⟨bv, hbv⟩ : ∃ b, b = resL (bcut t) := ⟨_, rfl⟩
  obtain ⟨cv, hcv⟩ : ∃ b, b = resL (bcut (drr t p)) := ⟨_, rfl⟩
  obtain ⟨x, hx⟩ : ∃ x, x = prc t (bcut t) := ⟨_, rfl⟩
  obtain ⟨y, hy⟩ : ∃ x, x = prc (drr t p) (bcut (drr t p)) := ⟨_, rfl⟩
  rw [← hbv, ← hx] at a
  rw [← hcv, ← hy] at b
  rw [← hbv] at BV
  rw [← hcv] at CV
  rw [← hx] at b1 b2 ⊢
  rw [← hy] at b3 b4 ⊢
  simp (disch := first | assumption | omega | (simp only [az]; done)) only [ru, eq_self, if_true, if_false, BEq.rfl, binI, AO.row?, splice, fillL, mmAll, loadV, storeV, zeros, Am.rowAt, Am.part, addOff, Nat.reduceAdd, Nat.reduceMul, Nat.reduceLeDiff, Nat.reduceSub, Nat.reduceLT, Int.reduceEq, Int.reduceLT, Int.reduceLE, Int.reduceGT, Int.reduceGE, Int.reduceAdd, Int.reduceSub, Int.reduceMul, Int.reduceNeg, Int.reduceToNat, reduceCtorEq, reduceIte, lenV_sl H.i, elem_pt H.i, view_sl H.i, scalar_sl H.i, cells_sl H.i, pure_sl H.i, Int.toNat_natCast, lenV_sl HD.i, elem_pt HD.i, view_sl HD.i, scalar_sl HD.i, cells_sl HD.i, pure_sl HD.i, Int.toNat_natCast, lenV_sl BV, view_sl BV, scalar_sl BV, cells_sl BV, pure_sl BV, lenV_sl CV, view_sl CV, scalar_sl CV, cells_sl CV, pure_sl CV, g31, g, a100, a, b, decide_true, decide_false]
  done
theorem cutO_is : ∃ l e, cutO t = .tup [resL l, I e] ∧ l.length ≤ 41 + t.length := by
  unfold cutO
  cases tval t
  · exact ⟨[], _, rfl, by simp⟩
  cases is1 t
  · exact ⟨[], _, rfl, by simp⟩
  · exact ⟨bcut t, _, rfl, by have := cut_len (best_spec2 (t := t)).1; omega⟩
theorem gaiR_is (i : Int) : ∃ a e, gaiR t i = .tup [I a, I e] := by
  unfold gaiR
  cases tval t
  · exact ⟨_, _, rfl⟩
  cases inR i 0 (t.length - 1)
  · exact ⟨_, _, rfl⟩
  cases is1 t <;> exact ⟨_, _, rfl⟩
set_option maxHeartbeats 8000000 in
theorem s15 (H0 : TbIn t v) (n : Int) : Iso E 15 [v, I n] false = some (Bo true) := by
  refine Iso_of (es _ _ _ _) e15 ?_
  simp only [f15]
  by_cases c1 : (t.length : Int) > 40
  · simp (disch := first | assumption | omega | (simp only [az]; done)) only [ru, eq_self, if_true, if_false, BEq.rfl, binI, AO.row?, splice, fillL, mmAll, loadV, storeV, zeros, Am.rowAt, Am.part, addOff, Nat.reduceAdd, Nat.reduceMul, Nat.reduceLeDiff, Nat.reduceSub, Nat.reduceLT, Int.reduceEq, Int.reduceLT, Int.reduceLE, Int.reduceGT, Int.reduceGE, Int.reduceAdd, Int.reduceSub, Int.reduceMul, Int.reduceNeg, Int.reduceToNat, reduceCtorEq, reduceIte, lenV_sl H0.i, elem_pt H0.i, view_sl H0.i, scalar_sl H0.i, cells_sl H0.i, pure_sl H0.i, Int.toNat_natCast, c1, s18, gUn, decide_true]
    done
  have H : TbOk t v := ⟨H0.i, by omega⟩
  have a42 := fun st => s42 H st
  obtain ⟨ov, hov⟩ : ∃ ov, ov = slV 6 Pt.e t := ⟨_, rfl⟩
  rw [← hov] at a42
  have HO : TbOk t ov := ⟨by rw [hov]; exact slV_is, H.n⟩
  have a46 := fun st => s46 HO st
  have a63 := s63 H
  have a48 := fun st => s48 HO n st
  have a64 := fun st => s64 H n st
  have a57 := fun st => s57 HO H st
  obtain ⟨l, y2, hy, hl⟩ := cutO_is (t := t)
  obtain ⟨z1, z2, hz⟩ := gaiR_is (t := t) n
  rw [hy] at a46 a63
  rw [hz] at a48 a64
  have LV := resL_is l
  obtain ⟨lv, hlv⟩ : ∃ lv, lv = resL l := ⟨_, rfl⟩
  rw [← hlv] at a46 a63 LV
  have n41 := H.n
  have a50 := fun st => s50 LV LV (by omega) st
  simp (disch := first | assumption | omega | (simp only [az]; done)) only [ru, eq_self, if_true, if_false, BEq.rfl, binI, AO.row?, splice, fillL, mmAll, loadV, storeV, zeros, Am.rowAt, Am.part, addOff, Nat.reduceAdd, Nat.reduceMul, Nat.reduceLeDiff, Nat.reduceSub, Nat.reduceLT, Int.reduceEq, Int.reduceLT, Int.reduceLE, Int.reduceGT, Int.reduceGE, Int.reduceAdd, Int.reduceSub, Int.reduceMul, Int.reduceNeg, Int.reduceToNat, reduceCtorEq, reduceIte, lenV_sl H.i, elem_pt H.i, view_sl H.i, scalar_sl H.i, cells_sl H.i, pure_sl H.i, Int.toNat_natCast, lenV_sl HO.i, elem_pt HO.i, view_sl HO.i, scalar_sl HO.i, cells_sl HO.i, pure_sl HO.i, Int.toNat_natCast, lenV_sl LV, elem_in LV, view_sl LV, scalar_sl LV, cells_sl LV, pure_sl LV, Int.toNat_natCast, c1, a42, a46, a63, a48, a64, a50, a57, s18, gUn, decide_true, decide_false, Bool.not_true, Bool.and_true]
  done
end
end Go.Proofs.Yteonklnjchefiaa.S

