/-
Functions of both sides of stage 8, one after another (A2).
-/
import Derived.Test.YtaffjmjahenoaaaA1

/-
Copies of houses, with a barrel more, without a part; what is bought (specification).
-/
namespace Go.Proofs.Ytaffjmjahenoaaa.A
open Go Go.Am Go.Proofs.Ytaffjmjahenoaaa.T
set_option maxRecDepth 100000
set_option linter.unusedSimpArgs false
set_option linter.unusedVariables false

theorem flat_shift {α : Type} {enc : α → List AV} (hi : ∀ a, ∀ x ∈ enc a, ∃ k i, x = .int k i) (l : List α) (n : Nat) : (l.flatMap enc).map (AV.shift n) = l.flatMap enc := by
  rw [← List.map_id (l.flatMap enc), List.map_map]
  apply List.map_congr_left
  intro x hx
  obtain ⟨a, _, hx⟩ := List.mem_flatMap.1 hx
  obtain ⟨k, i, rfl⟩ := hi a x hx
  rfl
/-- a house that lies in new memory -/
structure CpH (h : Hs) (g : List AO) (ok op ob : Nat) : Prop where
  n1 : ok < op
  n2 : op < ob
  k : g[ok]? = some (.cells (h.ks.flatMap Kd.e) false)
  p : g[op]? = some (.cells (h.ps.flatMap Pr.e) false)
  b : g[ob]? = some (.cells (h.bs.flatMap intL) false)
abbrev msK (h : Hs) (o : Nat) : AV := .ms 2 o 0 h.ks.length
abbrev msP (h : Hs) (o : Nat) : AV := .ms 2 o 0 h.ps.length
abbrev msB (h : Hs) (o : Nat) : AV := .ms 1 o 0 h.bs.length
abbrev cpV (h : Hs) : AV := hsV h.fl (slV 2 Kd.e h.ks) (slV 2 Pr.e h.ps) (slV 1 intL h.bs)
theorem viewK {l : List Kd} {g : List AO} {o : Nat} (hc : g[o]? = some (.cells (l.flatMap Kd.e) false)) {st : Bool} {n : Nat} : Am.view st g (n + 1) (.ms 2 o 0 l.length) = some (slV 2 Kd.e l) := RdC.view (enc := Kd.e) ⟨o, rfl, hc⟩ Kd.el Kd.iv
theorem viewP {l : List Pr} {g : List AO} {o : Nat} (hc : g[o]? = some (.cells (l.flatMap Pr.e) false)) {st : Bool} {n : Nat} : Am.view st g (n + 1) (.ms 2 o 0 l.length) = some (slV 2 Pr.e l) := RdC.view (enc := Pr.e) ⟨o, rfl, hc⟩ Pr.el Pr.iv
theorem viewB {l : List Int} {g : List AO} {o : Nat} (hc : g[o]? = some (.cells (l.flatMap intL) false)) {st : Bool} {n : Nat} : Am.view st g (n + 1) (.ms 1 o 0 l.length) = some (slV 1 intL l) := RdC.view (enc := intL) ⟨o, rfl, hc⟩ intE intIv
theorem CpH.view {h : Hs} {g : List AO} {ok op ob : Nat} (C : CpH h g ok op ob) (st : Bool) {n : Nat} : Am.view st g (n + 2) (hsV h.fl (msK h ok) (msP h op) (msB h ob)) = some (cpV h) := by
  show ([msK h ok, I h.fl, msP h op, msB h ob].mapM (Am.view st g (n + 1))).map AV.agg = _
  simp only [List.mapM_cons, List.mapM_nil, view_int, viewK C.k, viewP C.p, viewB C.b]
  rfl
theorem set_of {α : Type} {l : List α} {i j : Nat} {x y : α} (h : l[j]? = some y) (hne : i ≠ j) : (l.set i x)[j]? = some y := by rw [List.getElem?_set_ne hne]; exact h
theorem set_at {α : Type} {l : List α} {i : Nat} {x y : α} (h : l[i]? = some y) : (l.set i x)[i]? = some x := by
  have := (List.getElem?_eq_some_iff.1 h).1
  simp [this]
section
variable {h : Hs} {k p b : AV}
set_option maxHeartbeats 4000000 in
theorem r17 (H : HsOk h k p b) : ∃ J ok op ob, R E (.fn 28) [hsV h.fl k p b] [] 0 = some (hsV h.fl (msK h ok) (msP h op) (msB h ob), J) ∧ CpH h J ok op ob := by
  have n1 := H.nk; have n2 := H.np; have n3 := H.nb
  obtain ⟨o1, h1, A1, fr1, lo1, hc1⟩ := cpyO (eb := 16) (lim := 0) (h := [.cells [k, I h.fl, p, b] false, .cells [.nils, I 0, .nils, .nils] false, .cells [k, I h.fl, p, b] false]) H.k Kd.el Kd.sc (by omega) (by omega) (Nat.zero_le _)
  simp only [List.length_cons, List.length_nil, Nat.zero_add, Nat.reduceAdd, apC, apN] at A1 lo1
  have a0 := fr1.at (j := 0) rfl
  have a1 := fr1.at (j := 1) rfl
  have a2 := fr1.at (j := 2) rfl
  obtain ⟨H1, e1⟩ : ∃ H1, H1 = h1.set 2 (.cells [msK h o1, I h.fl, p, b] false) := ⟨_, rfl⟩
  have b0 : H1[0]? = some (.cells [k, I h.fl, p, b] false) := by rw [e1]; exact set_of a0 (by omega)
  have b1 : H1[1]? = some (.cells [.nils, I 0, .nils, .nils] false) := by rw [e1]; exact set_of a1 (by omega)
  have b2 : H1[2]? = some (.cells [msK h o1, I h.fl, p, b] false) := by rw [e1]; exact set_at a2
  have bk : H1[o1]? = some (.cells (h.ks.flatMap Kd.e) false) := by rw [e1]; exact set_of hc1 (by omega)
  have l1 := (List.getElem?_eq_some_iff.1 b2).1
  have lk := (List.getElem?_eq_some_iff.1 bk).1
  obtain ⟨o2, h2, A2, fr2, lo2, hc2⟩ := cpyO (eb := 16) (lim := 0) (h := H1) H.p Pr.el Pr.sc (by omega) (by omega) (Nat.zero_le _)
  obtain ⟨H2, e2⟩ : ∃ H2, H2 = h2.set 2 (.cells [msK h o1, I h.fl, msP h o2, b] false) := ⟨_, rfl⟩
  have c0 : H2[0]? = some (.cells [k, I h.fl, p, b] false) := by rw [e2]; exact set_of (fr2.at b0) (by omega)
  have c1 : H2[1]? = some (.cells [.nils, I 0, .nils, .nils] false) := by rw [e2]; exact set_of (fr2.at b1) (by omega)
  have c2 : H2[2]? = some (.cells [msK h o1, I h.fl, msP h o2, b] false) := by rw [e2]; exact set_at (fr2.at b2)
  have ck : H2[o1]? = some (.cells (h.ks.flatMap Kd.e) false) := by rw [e2]; exact set_of (fr2.at bk) (by omega)
  have cp : H2[o2]? = some (.cells (h.ps.flatMap Pr.e) false) := by rw [e2]; exact set_of hc2 (by omega)
  have l2 := (List.getElem?_eq_some_iff.1 c2).1
  have lp := (List.getElem?_eq_some_iff.1 cp).1
  obtain ⟨o3, h3, A3, fr3, lo3, hc3⟩ := cpyO (eb := 8) (lim := 0) (h := H2) H.b intE intSc (by omega) (by omega) (Nat.zero_le _)
  obtain ⟨H3, e3⟩ : ∃ H3, H3 = h3.set 2 (.cells [msK h o1, I h.fl, msP h o2, msB h o3] false) := ⟨_, rfl⟩
  have d0 : H3[0]? = some (.cells [k, I h.fl, p, b] false) := by rw [e3]; exact set_of (fr3.at c0) (by omega)
  have d1 : H3[1]? = some (.cells [.nils, I 0, .nils, .nils] false) := by rw [e3]; exact set_of (fr3.at c1) (by omega)
  have d2 : H3[2]? = some (.cells [msK h o1, I h.fl, msP h o2, msB h o3] false) := by rw [e3]; exact set_at (fr3.at c2)
  have dk : H3[o1]? = some (.cells (h.ks.flatMap Kd.e) false) := by rw [e3]; exact set_of (fr3.at ck) (by omega)
  have dp : H3[o2]? = some (.cells (h.ps.flatMap Pr.e) false) := by rw [e3]; exact set_of (fr3.at cp) (by omega)
  have db : H3[o3]? = some (.cells (h.bs.flatMap intL) false) := by rw [e3]; exact set_of hc3 (by omega)
  have l3 := (List.getElem?_eq_some_iff.1 d2).1
  refine (fun x => ?_ : (∃ r g, R E (.fn 28) [hsV h.fl k p b] [] 0 = some (r, g) ∧ (r = hsV h.fl (msK h o1) (msP h o2) (msB h o3) ∧ CpH h g o1 o2 o3)) → _) (R_of _ (es _ _ _ _) e28 ?_)
  · obtain ⟨r, g, hr, rfl, hc⟩ := x; exact ⟨g, _, _, _, hr, hc⟩
  simp only [f28, hsV]
  simp (disch := first | assumption | omega | (simp only [az]; done)) only [ru, eq_self, if_true, if_false, BEq.rfl, binI, AO.row?, splice, fillL, mmAll, loadV, storeV, zeros, Am.rowAt, Am.part, addOff, Nat.reduceAdd, Nat.reduceMul, Nat.reduceLeDiff, Nat.reduceSub, Nat.reduceLT, Int.reduceEq, Int.reduceLT, Int.reduceLE, Int.reduceGT, Int.reduceGE, Int.reduceAdd, Int.reduceSub, Int.reduceMul, Int.reduceNeg, Int.reduceToNat, reduceCtorEq, reduceIte, lenV_sl H.k, lenV_sl H.p, lenV_sl H.b, elem_kd H.k, elem_pr H.p, elem_in H.b, view_sl H.k, view_sl H.p, view_sl H.b, scalar_sl H.k, scalar_sl H.p, scalar_sl H.b, cells_sl H.k, cells_sl H.p, cells_sl H.b, pure_sl H.k, pure_sl H.p, pure_sl H.b, Int.toNat_natCast, exOp_buildSlice, List.map_nil, exOp_append, A1, a0, a1, a2, ← e1, b0, b1, b2, l1, at_ap, A2, fr2.at b0, fr2.at b2, ← e2, c0, c2, l2, A3, fr3.at c0, fr3.at c2, ← e3, d0, d1, d2, l3, finC, getRes, Option.some.injEq, exists_eq_left', set_at d1]
  exact ⟨by omega, by omega, set_of dk (by omega), set_of dp (by omega), set_of db (by omega)⟩
theorem c17 (H : HsOk h k p b) (g : List AO) : ∃ ok op ob g', C2 E 28 [hsV h.fl k p b] g = some (hsV h.fl (msK h ok) (msP h op) (msB h ob), g') ∧ Fr g g' ∧ g.length ≤ ok ∧ CpH h g' ok op ob := by
  obtain ⟨J, ok, op, ob, hr, C⟩ := r17 H
  refine ⟨ok + g.length, op + g.length, ob + g.length, _, C2_of (by simp only [AV.pureV.go, AV.pureV, pure_sl H.k, pure_sl H.p, pure_sl H.b, Bool.and_true]) hr, Fr.app _ _, by omega, ?_⟩
  have ap : ∀ {o : Nat} {c : List AV}, J[o]? = some (.cells c false) → (∀ n, c.map (AV.shift n) = c) → (g ++ J.map (AO.shift g.length))[o + g.length]? = some (.cells c false) := by
    intro o c hc hs
    rw [List.getElem?_append_right (by omega), Nat.add_sub_cancel, List.getElem?_map, hc]
    simp only [Option.map_some, AO.shift, hs]
  exact ⟨by have := C.n1; omega, by have := C.n2; omega, ap C.k fun n => flat_shift Kd.iv _ n, ap C.p fun n => flat_shift Pr.iv _ n, ap C.b fun n => flat_shift intIv _ n⟩
def Hs.more (h : Hs) (s : Int) : Hs := { h with bs := h.bs ++ [s] }
end
end Go.Proofs.Ytaffjmjahenoaaa.A

/-
What the laws ask of houses; a part less; what is bought, and the rest of the specification's answers.
-/
namespace Go.Proofs.Ytaffjmjahenoaaa.A
open Go Go.Am Go.Proofs.Ytaffjmjahenoaaa.T
set_option maxRecDepth 100000
set_option linter.unusedSimpArgs false
set_option linter.unusedVariables false

theorem s28 {l : List Int} {u v : AV} (U : IsSl 1 intL l u) (V : IsSl 1 intL l v) (hl : l.length ≤ 100000) (st : Bool) : Iso E 21 [u, v] st = some (Bo true) := by
  refine Iso_of (es _ _ _ _) e21 ?_
  simp only [f21]
  simp (disch := first | assumption | omega | (simp only [az]; done)) only [ru, eq_self, if_true, if_false, BEq.rfl, binI, AO.row?, splice, fillL, mmAll, loadV, storeV, zeros, Am.rowAt, Am.part, addOff, Nat.reduceAdd, Nat.reduceMul, Nat.reduceLeDiff, Nat.reduceSub, Nat.reduceLT, Int.reduceEq, Int.reduceLT, Int.reduceLE, Int.reduceGT, Int.reduceGE, Int.reduceAdd, Int.reduceSub, Int.reduceMul, Int.reduceNeg, Int.reduceToNat, reduceCtorEq, reduceIte, lenV_sl U, elem_in U, view_sl U, scalar_sl U, cells_sl U, pure_sl U, Int.toNat_natCast, lenV_sl V, elem_in V, view_sl V, scalar_sl V, cells_sl V, pure_sl V, Int.toNat_natCast, decide_true, Bool.not_true]
  refine G_loop_ind (fun m ts h mk => ∃ i : Nat, i ≤ l.length ∧ m = l.length - i ∧ ts.length = 26 ∧ ts.getD 0 .undef = u ∧ ts.getD 1 .undef = v ∧ ts.getD 5 .undef = I i ∧ h = [] ∧ mk = []) ?_ _ _ _ _ ⟨0, Nat.zero_le _, rfl, rfl, rfl, rfl, rfl, rfl, rfl⟩
  rintro m ts h mk ih ⟨i, hi, rfl, hl', q0, q1, q5, rfl, rfl⟩
  rw [lit_all hl']
  simp only [lit0, litS, Nat.reduceAdd, q0, q1, q5]
  simp (disch := first | assumption | omega | (simp only [az]; done)) only [ru, eq_self, if_true, if_false, BEq.rfl, binI, AO.row?, splice, fillL, mmAll, loadV, storeV, zeros, Am.rowAt, Am.part, addOff, Nat.reduceAdd, Nat.reduceMul, Nat.reduceLeDiff, Nat.reduceSub, Nat.reduceLT, Int.reduceEq, Int.reduceLT, Int.reduceLE, Int.reduceGT, Int.reduceGE, Int.reduceAdd, Int.reduceSub, Int.reduceMul, Int.reduceNeg, Int.reduceToNat, reduceCtorEq, reduceIte, lenV_sl U, elem_in U, view_sl U, scalar_sl U, cells_sl U, pure_sl U, Int.toNat_natCast]
  by_cases hlt : (i : Int) < l.length
  case pos =>
    simp (disch := first | assumption | omega | (simp only [az]; done)) only [ru, eq_self, if_true, if_false, BEq.rfl, binI, AO.row?, splice, fillL, mmAll, loadV, storeV, zeros, Am.rowAt, Am.part, addOff, Nat.reduceAdd, Nat.reduceMul, Nat.reduceLeDiff, Nat.reduceSub, Nat.reduceLT, Int.reduceEq, Int.reduceLT, Int.reduceLE, Int.reduceGT, Int.reduceGE, Int.reduceAdd, Int.reduceSub, Int.reduceMul, Int.reduceNeg, Int.reduceToNat, reduceCtorEq, reduceIte, lenV_sl U, elem_in U, view_sl U, scalar_sl U, cells_sl U, pure_sl U, Int.toNat_natCast, lenV_sl V, elem_in V, view_sl V, scalar_sl V, cells_sl V, pure_sl V, Int.toNat_natCast, hlt, decide_true, Bool.not_true]
    exact ih (l.length - (i + 1)) _ _ _ (by omega) ⟨i + 1, by omega, rfl, rfl, rfl, rfl, rfl, rfl, rfl⟩
  simp (disch := first | assumption | omega | (simp only [az]; done)) only [ru, eq_self, if_true, if_false, BEq.rfl, binI, AO.row?, splice, fillL, mmAll, loadV, storeV, zeros, Am.rowAt, Am.part, addOff, Nat.reduceAdd, Nat.reduceMul, Nat.reduceLeDiff, Nat.reduceSub, Nat.reduceLT, Int.reduceEq, Int.reduceLT, Int.reduceLE, Int.reduceGT, Int.reduceGE, Int.reduceAdd, Int.reduceSub, Int.reduceMul, Int.reduceNeg, Int.reduceToNat, reduceCtorEq, reduceIte, hlt]
def Hs.huge (h : Hs) : Bool := decide ((h.ks.length : Int) > 40) || decide ((h.ps.length : Int) > 40) || decide ((h.bs.length : Int) > 40)
def Hs.far (h : Hs) : Bool := h.huge || (h.valid && decide ((((h.bs.length : Int) + 1) ^ h.ps.length) > 700))
def Hs.rdy (h : Hs) : Bool := !h.far && h.valid
section
variable {h : Hs} {k p b : AV}
theorem s15 (H : HsIn h k p b) (st : Bool) : Iso E 6 [hsV h.fl k p b] st = some (Bo h.huge) := by
  refine Iso_of (es _ _ _ _) e6 ?_
  simp only [f6, hsV, Hs.huge]
  by_cases c1 : (h.ks.length : Int) > 40
  · simp (disch := first | assumption | omega | (simp only [az]; done)) only [ru, eq_self, if_true, if_false, BEq.rfl, binI, AO.row?, splice, fillL, mmAll, loadV, storeV, zeros, Am.rowAt, Am.part, addOff, Nat.reduceAdd, Nat.reduceMul, Nat.reduceLeDiff, Nat.reduceSub, Nat.reduceLT, Int.reduceEq, Int.reduceLT, Int.reduceLE, Int.reduceGT, Int.reduceGE, Int.reduceAdd, Int.reduceSub, Int.reduceMul, Int.reduceNeg, Int.reduceToNat, reduceCtorEq, reduceIte, lenV_sl H.k, lenV_sl H.p, lenV_sl H.b, elem_kd H.k, elem_pr H.p, elem_in H.b, view_sl H.k, view_sl H.p, view_sl H.b, scalar_sl H.k, scalar_sl H.p, scalar_sl H.b, cells_sl H.k, cells_sl H.p, cells_sl H.b, pure_sl H.k, pure_sl H.p, pure_sl H.b, Int.toNat_natCast, c1, decide_true, gUn, Bool.true_or]
  by_cases c2 : (h.ps.length : Int) > 40
  · simp (disch := first | assumption | omega | (simp only [az]; done)) only [ru, eq_self, if_true, if_false, BEq.rfl, binI, AO.row?, splice, fillL, mmAll, loadV, storeV, zeros, Am.rowAt, Am.part, addOff, Nat.reduceAdd, Nat.reduceMul, Nat.reduceLeDiff, Nat.reduceSub, Nat.reduceLT, Int.reduceEq, Int.reduceLT, Int.reduceLE, Int.reduceGT, Int.reduceGE, Int.reduceAdd, Int.reduceSub, Int.reduceMul, Int.reduceNeg, Int.reduceToNat, reduceCtorEq, reduceIte, lenV_sl H.k, lenV_sl H.p, lenV_sl H.b, elem_kd H.k, elem_pr H.p, elem_in H.b, view_sl H.k, view_sl H.p, view_sl H.b, scalar_sl H.k, scalar_sl H.p, scalar_sl H.b, cells_sl H.k, cells_sl H.p, cells_sl H.b, pure_sl H.k, pure_sl H.p, pure_sl H.b, Int.toNat_natCast, c1, c2, decide_true, decide_false, gUn, Bool.true_or, Bool.false_or]
  simp (disch := first | assumption | omega | (simp only [az]; done)) only [ru, eq_self, if_true, if_false, BEq.rfl, binI, AO.row?, splice, fillL, mmAll, loadV, storeV, zeros, Am.rowAt, Am.part, addOff, Nat.reduceAdd, Nat.reduceMul, Nat.reduceLeDiff, Nat.reduceSub, Nat.reduceLT, Int.reduceEq, Int.reduceLT, Int.reduceLE, Int.reduceGT, Int.reduceGE, Int.reduceAdd, Int.reduceSub, Int.reduceMul, Int.reduceNeg, Int.reduceToNat, reduceCtorEq, reduceIte, lenV_sl H.k, lenV_sl H.p, lenV_sl H.b, elem_kd H.k, elem_pr H.p, elem_in H.b, view_sl H.k, view_sl H.p, view_sl H.b, scalar_sl H.k, scalar_sl H.p, scalar_sl H.b, cells_sl H.k, cells_sl H.p, cells_sl H.b, pure_sl H.k, pure_sl H.p, pure_sl H.b, Int.toNat_natCast, c1, c2, decide_true, decide_false, gUn, Bool.true_or, Bool.false_or]
theorem huge_ok (H : HsIn h k p b) (hh : h.huge = false) : HsOk h k p b := by
  simp only [Hs.huge, Bool.or_eq_false_iff, decide_eq_false_iff_not] at hh
  exact ⟨H, by omega, by omega, by omega⟩
theorem pow_lt {n : Nat} (hn : n ≤ 4) : ∀ {i : Nat}, i ≤ 6 → 0 ≤ ((n : Int) + 1) ^ i ∧ ((n : Int) + 1) ^ i ≤ 15625 := by
  intro i hi
  have h1 := pow5_le (n := n + 1) (d := i) (by omega) hi
  have : (((n + 1) ^ i : Nat) : Int) = ((n : Int) + 1) ^ i := by push_cast; rfl
  omega
set_option maxHeartbeats 1000000 in
theorem s29 (H : HsIn h k p b) (st : Bool) : Iso E 8 [hsV h.fl k p b] st = some (Bo h.far) := by
  have a := fun st => s15 H st
  simp only [hsV] at a
  refine Iso_of (es _ _ _ _) e8 ?_
  simp only [f8, hsV, Hs.far]
  cases c : h.huge
  case true => simp (disch := first | assumption | omega | (simp only [az]; done)) only [ru, eq_self, if_true, if_false, BEq.rfl, binI, AO.row?, splice, fillL, mmAll, loadV, storeV, zeros, Am.rowAt, Am.part, addOff, Nat.reduceAdd, Nat.reduceMul, Nat.reduceLeDiff, Nat.reduceSub, Nat.reduceLT, Int.reduceEq, Int.reduceLT, Int.reduceLE, Int.reduceGT, Int.reduceGE, Int.reduceAdd, Int.reduceSub, Int.reduceMul, Int.reduceNeg, Int.reduceToNat, reduceCtorEq, reduceIte, lenV_sl H.k, lenV_sl H.p, lenV_sl H.b, elem_kd H.k, elem_pr H.p, elem_in H.b, view_sl H.k, view_sl H.p, view_sl H.b, scalar_sl H.k, scalar_sl H.p, scalar_sl H.b, cells_sl H.k, cells_sl H.p, cells_sl H.b, pure_sl H.k, pure_sl H.p, pure_sl H.b, Int.toNat_natCast, a, c, Bool.true_or]
  have O := huge_ok H c
  have a2 := fun st => s20 O st
  simp only [hsV, vE] at a2
  cases c2 : h.valid
  · simp only [c2] at a2
    simp (disch := first | assumption | omega | (simp only [az]; done)) only [ru, eq_self, if_true, if_false, BEq.rfl, binI, AO.row?, splice, fillL, mmAll, loadV, storeV, zeros, Am.rowAt, Am.part, addOff, Nat.reduceAdd, Nat.reduceMul, Nat.reduceLeDiff, Nat.reduceSub, Nat.reduceLT, Int.reduceEq, Int.reduceLT, Int.reduceLE, Int.reduceGT, Int.reduceGE, Int.reduceAdd, Int.reduceSub, Int.reduceMul, Int.reduceNeg, Int.reduceToNat, reduceCtorEq, reduceIte, lenV_sl H.k, lenV_sl H.p, lenV_sl H.b, elem_kd H.k, elem_pr H.p, elem_in H.b, view_sl H.k, view_sl H.p, view_sl H.b, scalar_sl H.k, scalar_sl H.p, scalar_sl H.b, cells_sl H.k, cells_sl H.p, cells_sl H.b, pure_sl H.k, pure_sl H.p, pure_sl H.b, Int.toNat_natCast, a, c, a2, decide_true, decide_false, Bool.not_false, Bool.false_and, Bool.false_or]
    done
  simp only [c2] at a2
  have G := valid_iff.1 c2
  have np := G.np; have nb := G.nb
  simp (disch := first | assumption | omega | (simp only [az]; done)) only [ru, eq_self, if_true, if_false, BEq.rfl, binI, AO.row?, splice, fillL, mmAll, loadV, storeV, zeros, Am.rowAt, Am.part, addOff, Nat.reduceAdd, Nat.reduceMul, Nat.reduceLeDiff, Nat.reduceSub, Nat.reduceLT, Int.reduceEq, Int.reduceLT, Int.reduceLE, Int.reduceGT, Int.reduceGE, Int.reduceAdd, Int.reduceSub, Int.reduceMul, Int.reduceNeg, Int.reduceToNat, reduceCtorEq, reduceIte, lenV_sl H.k, lenV_sl H.p, lenV_sl H.b, elem_kd H.k, elem_pr H.p, elem_in H.b, view_sl H.k, view_sl H.p, view_sl H.b, scalar_sl H.k, scalar_sl H.p, scalar_sl H.b, cells_sl H.k, cells_sl H.p, cells_sl H.b, pure_sl H.k, pure_sl H.p, pure_sl H.b, Int.toNat_natCast, a, c, a2, decide_true, decide_false, Bool.not_true]
  refine G_loop_ind (fun m ts hh mk => ∃ i : Nat, i ≤ h.ps.length ∧ m = h.ps.length - i ∧ ts.length = 25 ∧ ts.getD 1 .undef = .ptr 0 0 ∧ ts.getD 3 .undef = I (((h.bs.length : Int) + 1) ^ i) ∧ ts.getD 4 .undef = I i ∧ hh = [.cells [k, I h.fl, p, b] false] ∧ mk = []) ?_ _ _ _ _ ⟨0, Nat.zero_le _, rfl, rfl, rfl, by simp [lit], rfl, rfl, rfl⟩
  rintro m ts hh mk ih ⟨i, hi', rfl, hl', q1, q3, q4, rfl, rfl⟩
  rw [lit_all hl']
  simp only [lit0, litS, Nat.reduceAdd, q1, q3, q4]
  simp (disch := first | assumption | omega | (simp only [az]; done)) only [ru, eq_self, if_true, if_false, BEq.rfl, binI, AO.row?, splice, fillL, mmAll, loadV, storeV, zeros, Am.rowAt, Am.part, addOff, Nat.reduceAdd, Nat.reduceMul, Nat.reduceLeDiff, Nat.reduceSub, Nat.reduceLT, Int.reduceEq, Int.reduceLT, Int.reduceLE, Int.reduceGT, Int.reduceGE, Int.reduceAdd, Int.reduceSub, Int.reduceMul, Int.reduceNeg, Int.reduceToNat, reduceCtorEq, reduceIte, lenV_sl H.k, lenV_sl H.p, lenV_sl H.b, elem_kd H.k, elem_pr H.p, elem_in H.b, view_sl H.k, view_sl H.p, view_sl H.b, scalar_sl H.k, scalar_sl H.p, scalar_sl H.b, cells_sl H.k, cells_sl H.p, cells_sl H.b, pure_sl H.k, pure_sl H.p, pure_sl H.b, Int.toNat_natCast]
  by_cases hlt : (i : Int) < h.ps.length
  case pos =>
    have b1 := pow_lt nb (i := i) (by omega)
    have b2 := pow_lt nb (i := i + 1) (by omega)
    have e1 : ((h.bs.length : Int) + 1) ^ (i + 1) = ((h.bs.length : Int) + 1) ^ i * ((h.bs.length : Int) + 1) := Int.pow_succ _ _
    obtain ⟨z, hz⟩ : ∃ z, z = ((h.bs.length : Int) + 1) ^ i := ⟨_, rfl⟩
    rw [e1, ← hz] at b2
    rw [← hz] at b1 e1 ⊢
    obtain ⟨y, hy⟩ : ∃ y, y = z * ((h.bs.length : Int) + 1) := ⟨_, rfl⟩
    rw [← hy] at b2
    simp (disch := first | assumption | omega | (simp only [az]; done)) only [ru, eq_self, if_true, if_false, BEq.rfl, binI, AO.row?, splice, fillL, mmAll, loadV, storeV, zeros, Am.rowAt, Am.part, addOff, Nat.reduceAdd, Nat.reduceMul, Nat.reduceLeDiff, Nat.reduceSub, Nat.reduceLT, Int.reduceEq, Int.reduceLT, Int.reduceLE, Int.reduceGT, Int.reduceGE, Int.reduceAdd, Int.reduceSub, Int.reduceMul, Int.reduceNeg, Int.reduceToNat, reduceCtorEq, reduceIte, lenV_sl H.k, lenV_sl H.p, lenV_sl H.b, elem_kd H.k, elem_pr H.p, elem_in H.b, view_sl H.k, view_sl H.p, view_sl H.b, scalar_sl H.k, scalar_sl H.p, scalar_sl H.b, cells_sl H.k, cells_sl H.p, cells_sl H.b, pure_sl H.k, pure_sl H.p, pure_sl H.b, Int.toNat_natCast, hlt, ← hy]
    exact ih (h.ps.length - (i + 1)) _ _ _ (by omega) ⟨i + 1, by omega, rfl, rfl, rfl, by rw [e1, ← hy]; rfl, rfl, rfl, rfl⟩
  obtain rfl : i = h.ps.length := by omega
  obtain ⟨z, hz⟩ : ∃ z, z = ((h.bs.length : Int) + 1) ^ h.ps.length := ⟨_, rfl⟩
  rw [← hz]
  simp (disch := first | assumption | omega | (simp only [az]; done)) only [ru, eq_self, if_true, if_false, BEq.rfl, binI, AO.row?, splice, fillL, mmAll, loadV, storeV, zeros, Am.rowAt, Am.part, addOff, Nat.reduceAdd, Nat.reduceMul, Nat.reduceLeDiff, Nat.reduceSub, Nat.reduceLT, Int.reduceEq, Int.reduceLT, Int.reduceLE, Int.reduceGT, Int.reduceGE, Int.reduceAdd, Int.reduceSub, Int.reduceMul, Int.reduceNeg, Int.reduceToNat, reduceCtorEq, reduceIte, hlt, Bool.true_and, Bool.false_or]
theorem rdy_iff : h.rdy = true ↔ HG h ∧ (((h.bs.length : Int) + 1) ^ h.ps.length) ≤ 700 := by
  rw [← valid_iff]
  simp only [Hs.rdy, Hs.far, Bool.and_eq_true, Bool.not_eq_true', Bool.or_eq_false_iff, Bool.and_eq_false_iff, decide_eq_false_iff_not]
  constructor
  · rintro ⟨⟨h1, h2⟩, h3⟩
    refine ⟨h3, ?_⟩
    rcases h2 with h2 | h2
    · rw [h3] at h2; cases h2
    · omega
  · rintro ⟨h1, h2⟩
    have G := valid_iff.1 h1
    have := G.nk; have := G.np; have := G.nb
    refine ⟨⟨?_, .inr (by omega)⟩, h1⟩
    simp only [Hs.huge, Bool.or_eq_false_iff, decide_eq_false_iff_not]
    omega
/-! the specification's rest -/
/-! what is bought -/
def buyF (h : Hs) (n : Nat) : Option Nat := (List.range n).find? fun s => decide ((h.more s).pk ≠ [])
theorem more_G (G : HG h) (hb : h.bs.length < 4) {s : Int} (hs : 0 ≤ s ∧ s ≤ 99) : HG (h.more s) where
  nk := G.nk
  np := G.np
  nb := by simp [Hs.more]; omega
  g := G.g
  q := G.q
  b := by
    intro i hi
    have hi' : i < h.bs.length + 1 := by simpa [Hs.more] using hi
    show 0 ≤ (h.bs ++ [s]).getD i 0 ∧ (h.bs ++ [s]).getD i 0 ≤ 99
    by_cases e : i < h.bs.length
    · rw [List.getD_eq_getElem?_getD, List.getElem?_append_left e, ← List.getD_eq_getElem?_getD]; exact G.b i e
    · obtain rfl : i = h.bs.length := by omega
      simpa [List.getD_eq_getElem?_getD] using hs
/-- what is bought, and the error -/
def buyN (h : Hs) : Int := match buyF h 100 with | some s => s | none => 0
def buyE (h : Hs) : Int := if h.valid then (if h.pk ≠ [] then 0 else if h.bs.length = 4 then 2 else if (buyF h 100).isSome then 0 else 3) else 80
def buyV (h : Hs) : AV := .tup [I (if h.valid && decide (h.pk = []) && decide (h.bs.length ≠ 4) then buyN h else 0), I (buyE h)]
end
end Go.Proofs.Ytaffjmjahenoaaa.A

/-
The program's loads of barrels.
-/
namespace Go.Proofs.Ytaffjmjahenoaaa.A
open Go Go.Am Go.Proofs.Ytaffjmjahenoaaa.T
set_option maxRecDepth 100000
set_option linter.unusedSimpArgs false
set_option linter.unusedVariables false

/-! rows of numbers -/
def IvL (z : List AV) : Prop := ∀ y ∈ z, ∃ k i, y = .int k i
theorem iv_sc {z : List AV} (h : IvL z) : z.all AV.scalar = true := by
  rw [List.all_eq_true]; intro y hy; obtain ⟨k, i, rfl⟩ := h y hy; rfl
theorem iv_view {z : List AV} (h : IvL z) {st : Bool} {g : List AO} {n : Nat} : z.mapM (view st g n) = some z := mapM_view fun y hy => by
  obtain ⟨k, i, rfl⟩ := h y hy; exact view_int
theorem iv_pure {z : List AV} (h : IvL z) : AV.pureV.go z = true := by
  induction z with
  | nil => rfl
  | cons a z ih =>
    obtain ⟨k, i, e⟩ := h a (by simp)
    subst e
    rw [AV.pureV.go, ih fun y hy => h y (by simp [hy])]; rfl
theorem fl_get {k : Nat} : ∀ {L : List (List AV)} {i : Nat}, (∀ r ∈ L, r.length = k) → i < L.length → (L.flatten.drop (i * k)).take k = L.getD i []
  | [], i, _, h => by simp at h
  | a :: L, 0, hk, _ => by
    have := hk a (by simp)
    simp only [Nat.zero_mul, List.drop_zero, List.flatten_cons]
    rw [← this, List.take_left]; rfl
  | a :: L, i + 1, hk, h => by
    have ha := hk a (by simp)
    have ih := fl_get (k := k) (L := L) (i := i) (fun r hr => hk r (by simp [hr])) (by simpa using h)
    rw [List.flatten_cons, show (i + 1) * k = a.length + i * k by rw [Nat.succ_mul, ha]; omega, List.drop_append, List.drop_of_length_le (by omega), List.nil_append, show a.length + i * k - a.length = i * k by omega, ih]
    rfl
theorem fl_put {k : Nat} {x : List AV} (hx : x.length = k) : ∀ {L : List (List AV)} {i : Nat}, (∀ r ∈ L, r.length = k) → i < L.length → L.flatten.take (i * k) ++ (x ++ L.flatten.drop (i * k + k)) = (L.set i x).flatten
  | [], i, _, h => by simp at h
  | a :: L, 0, hk, _ => by
    have := hk a (by simp)
    simp only [Nat.zero_mul, List.take_zero, List.nil_append, Nat.zero_add, List.flatten_cons, List.set_cons_zero]
    rw [← this, List.drop_left]
  | a :: L, i + 1, hk, h => by
    have ha := hk a (by simp)
    have ih := fl_put hx (L := L) (i := i) (fun r hr => hk r (by simp [hr])) (by simpa using h)
    have e1 : (i + 1) * k = a.length + i * k := by rw [Nat.succ_mul, ha]; omega
    rw [List.flatten_cons, List.set_cons_succ, List.flatten_cons, ← ih, e1, Nat.add_assoc, List.take_append, List.drop_append, List.take_of_length_le (by omega), List.drop_of_length_le (by omega), List.append_assoc]
    rw [show a.length + i * k - a.length = i * k by omega, show a.length + (i * k + k) - a.length = i * k + k by omega, List.nil_append]

/-- what some parts are together -/
def ldc (ks : List Kd) (l : List Pr) : List AV := [I l.length, I (lbP l), I (stP ks l), I (dyP ks l)]
theorem ldc_iv {ks : List Kd} {l : List Pr} : IvL (ldc ks l) := by simp [IvL, ldc]
/-- four rows: the loads of all barrels -/
def r4 (F : Nat → List AV) : List AV := ((List.range 4).map F).flatten
def lds (h : Hs) (x : List Int) : List AV := r4 fun b => ldc h.ks (prs h.ps x b)
theorem r4_len {F : Nat → List AV} (hl : ∀ p, (F p).length = 4) : (r4 F).length = 16 := by
  simp only [r4, List.length_flatten, List.map_map]
  rw [show List.map (List.length ∘ F) (List.range 4) = List.map (fun _ => 4) (List.range 4) from List.map_congr_left fun p _ => hl p]
  rfl
theorem r4_get {F : Nat → List AV} {i : Nat} (h : i < 4) (hl : ∀ p, (F p).length = 4) : ((r4 F).drop (i * 4)).take 4 = F i := by
  unfold r4
  rw [fl_get (by intro r hr; obtain ⟨p, _, rfl⟩ := List.mem_map.1 hr; exact hl p) (by simpa using h)]
  simp [List.getD_eq_getElem?_getD, h]
theorem r4_put {F F' : Nat → List AV} {i : Nat} (h : i < 4) (hl : ∀ p, (F p).length = 4) {x : List AV} (hx : x.length = 4) (he : ∀ p, F' p = if p = i then x else F p) : (r4 F).take (i * 4) ++ (x ++ (r4 F).drop (i * 4 + 4)) = r4 F' := by
  unfold r4
  rw [fl_put hx (by intro r hr; obtain ⟨p, _, rfl⟩ := List.mem_map.1 hr; exact hl p) (by simpa using h)]
  congr 1
  refine List.ext_getElem (by simp) fun k h1 h2 => ?_
  simp only [List.getElem_set, List.getElem_map, List.getElem_range, he]
  by_cases e : i = k
  · subst e; simp
  · rw [if_neg e, if_neg (fun h => e h.symm)]
theorem r4_iv {F : Nat → List AV} (h : ∀ p, IvL (F p)) : IvL (r4 F) := by
  intro y hy
  simp only [r4, List.mem_flatten, List.mem_map] at hy
  obtain ⟨_, ⟨p, _, rfl⟩, hy⟩ := hy
  exact h p y hy
section
variable {h : Hs} {k p b : AV}
theorem lds_len {x : List Int} : (lds h x).length = 16 := r4_len fun _ => rfl
theorem lds_iv {x : List Int} : IvL (lds h x) := r4_iv fun _ => ldc_iv
theorem lds_get {x : List Int} {i : Nat} (hi : i < 4) : ((lds h x).drop (i * 4)).take 4 = ldc h.ks (prs h.ps x i) := r4_get hi fun _ => rfl
theorem lds_put {x : List Int} {i : Nat} (hi : i < 4) (hx : x.length < h.ps.length) : (lds h x).take (i * 4) ++ (ldc h.ks (prs h.ps (x ++ [(i : Int)]) i) ++ (lds h x).drop (i * 4 + 4)) = lds h (x ++ [(i : Int)]) := by
  refine r4_put hi (fun _ => rfl) rfl fun q => ?_
  by_cases e : q = i
  · subst e; rw [if_pos rfl]
  · rw [if_neg e, prs_snoc hx, if_neg (by omega), List.append_nil]
theorem lds_nil : lds h [] = List.replicate 16 (I 0) := by
  simp only [lds, r4, prs, List.zip_nil_right, List.filter_nil, List.map_nil]
  rfl

set_option maxHeartbeats 2000000 in
theorem s69 (H : HsOk h k p b) (G : HG h) {l0 : List Pr} (P0 : PG l0) (hl0 : l0.length ≤ 1000) {l : List Int} {v : AV} (V : IsSl 1 intL l v) (hl : l.length ≤ 1000) (L : InP h l) (st : Bool) :
    Iso E 87 [hsV h.fl k p b, .agg (ldc h.ks l0), v] st = some (.agg (ldc h.ks (l0 ++ h.pts l))) := by
  refine Iso_of (es _ _ _ _) e87 ?_
  simp only [f87, hsV, ldc]
  simp (disch := first | assumption | omega | (simp only [az]; done)) only [ru, eq_self, if_true, if_false, BEq.rfl, binI, AO.row?, splice, fillL, mmAll, loadV, storeV, zeros, Am.rowAt, Am.part, addOff, Nat.reduceAdd, Nat.reduceMul, Nat.reduceLeDiff, Nat.reduceSub, Nat.reduceLT, Int.reduceEq, Int.reduceLT, Int.reduceLE, Int.reduceGT, Int.reduceGE, Int.reduceAdd, Int.reduceSub, Int.reduceMul, Int.reduceNeg, Int.reduceToNat, reduceCtorEq, reduceIte, lenV_sl H.k, lenV_sl H.p, lenV_sl H.b, elem_kd H.k, elem_pr H.p, elem_in H.b, view_sl H.k, view_sl H.p, view_sl H.b, scalar_sl H.k, scalar_sl H.p, scalar_sl H.b, cells_sl H.k, cells_sl H.p, cells_sl H.b, pure_sl H.k, pure_sl H.p, pure_sl H.b, Int.toNat_natCast, lenV_sl V, elem_in V, view_sl V, scalar_sl V, cells_sl V, pure_sl V, Int.toNat_natCast]
  refine G_loop_ind (fun m ts hh mk => ∃ (i : Nat) (J : List AO) (cc : List AV), i ≤ l.length ∧ m = l.length - i ∧ ts.length = 52 ∧ ts.getD 2 .undef = v ∧ ts.getD 3 .undef = .ptr 0 0 ∧ ts.getD 4 .undef = .ptr 1 0 ∧ ts.getD 6 .undef = .ptr 2 0 ∧ ts.getD 11 .undef = v ∧ ts.getD 12 .undef = I l.length ∧ ts.getD 13 .undef = I i ∧
      hh = .cells [k, I h.fl, p, b] false :: .cells cc false :: .cells [I 0, I 0, I 0, I 0] false :: J ∧ mk = [] ∧ cc = ldc h.ks (l0 ++ h.pts (l.take i))) ?_ _ _ _ _
    ⟨0, [], _, Nat.zero_le _, rfl, rfl, rfl, rfl, rfl, rfl, rfl, rfl, rfl, rfl, rfl, by rw [List.take_zero, show h.pts [] = [] from rfl, List.append_nil]; rfl⟩
  rintro m ts hh mk ih ⟨i, J, cc, hi', rfl, hl', q2, q3, q4, q6, q11, q12, q13, rfl, rfl, rfl⟩
  rw [lit_all hl']
  simp only [lit0, litS, Nat.reduceAdd, q2, q3, q4, q6, q11, q12, q13]
  simp (disch := first | assumption | omega | (simp only [az]; done)) only [ru, eq_self, if_true, if_false, BEq.rfl, binI, AO.row?, splice, fillL, mmAll, loadV, storeV, zeros, Am.rowAt, Am.part, addOff, Nat.reduceAdd, Nat.reduceMul, Nat.reduceLeDiff, Nat.reduceSub, Nat.reduceLT, Int.reduceEq, Int.reduceLT, Int.reduceLE, Int.reduceGT, Int.reduceGE, Int.reduceAdd, Int.reduceSub, Int.reduceMul, Int.reduceNeg, Int.reduceToNat, reduceCtorEq, reduceIte, lenV_sl V, elem_in V, view_sl V, scalar_sl V, cells_sl V, pure_sl V, Int.toNat_natCast]
  by_cases hlt : (i : Int) < l.length
  case pos =>
    have hi2 : i < l.length := by omega
    have hx := L i hi2
    have hk := inP_k G L hi2
    have PX : PG (l0 ++ h.pts (l.take (i + 1))) := by
      intro q hq
      rcases List.mem_append.1 hq with hq | hq
      · exact P0 q hq
      · exact pts_pg G _ q hq
    have PY : PG (l0 ++ h.pts (l.take i)) := by
      intro q hq
      rcases List.mem_append.1 hq with hq | hq
      · exact P0 q hq
      · exact pts_pg G _ q hq
    obtain ⟨x, ex⟩ : ∃ x, x = l.getD i 0 := ⟨_, rfl⟩
    have et : l0 ++ h.pts (l.take (i + 1)) = l0 ++ h.pts (l.take i) ++ [h.ps.getD x.toNat default] := by
      rw [take_snoc (d := 0) hi2, pts_snoc, ← ex, List.append_assoc]
    have tl := List.length_take_of_le (show i ≤ l.length by omega)
    have b1 := lb_bd PY
    have b3 := lb_bd PX
    have bl : (l0 ++ h.pts (l.take i)).length = l0.length + i := by rw [List.length_append, pts_len, tl]
    rw [et, lbP_snoc, List.length_append, bl, List.length_singleton] at b3
    have en : (l0 ++ h.pts (l.take (i + 1))).length = (l0 ++ h.pts (l.take i)).length + 1 := by rw [et, List.length_append]; rfl
    have e1 : lbP (l0 ++ h.pts (l.take (i + 1))) = lbP (l0 ++ h.pts (l.take i)) + (h.ps.getD x.toNat default).p := by rw [et, lbP_snoc]
    have e2 : stP h.ks (l0 ++ h.pts (l.take (i + 1))) = mx (stP h.ks (l0 ++ h.pts (l.take i))) (kdP h.ks (h.ps.getD x.toNat default)).s := by rw [et, stP_snoc]
    have e3 : dyP h.ks (l0 ++ h.pts (l.take (i + 1))) = mx (dyP h.ks (l0 ++ h.pts (l.take i))) (kdP h.ks (h.ps.getD x.toNat default)).d := by rw [et, dyP_snoc]
    rw [← ex] at hx hk
    have eg : ldc h.ks (l0 ++ h.pts (l.take (i + 1))) = [I (l0 ++ h.pts (l.take (i + 1))).length, I (lbP (l0 ++ h.pts (l.take (i + 1)))), I (stP h.ks (l0 ++ h.pts (l.take (i + 1)))), I (dyP h.ks (l0 ++ h.pts (l.take (i + 1))))] := rfl
    rw [en, e1, e2, e3] at eg
    simp only [ldc]
    obtain ⟨n, hn⟩ : ∃ n, n = (l0 ++ h.pts (l.take i)).length := ⟨_, rfl⟩
    obtain ⟨z, hz⟩ : ∃ z, z = lbP (l0 ++ h.pts (l.take i)) := ⟨_, rfl⟩
    obtain ⟨u, hu⟩ : ∃ u, u = stP h.ks (l0 ++ h.pts (l.take i)) := ⟨_, rfl⟩
    obtain ⟨w, hw⟩ : ∃ w, w = dyP h.ks (l0 ++ h.pts (l.take i)) := ⟨_, rfl⟩
    obtain ⟨y, hy⟩ : ∃ y, y = h.ps.getD x.toNat default := ⟨_, rfl⟩
    rw [← hy] at hk
    rw [← hz, ← hy] at b3
    rw [← hz, ← hn] at b1
    rw [← hn] at bl
    rw [← hz, ← hn, ← hu, ← hw, ← hy] at eg
    rw [← hz, ← hn, ← hu, ← hw]
    obtain ⟨c, hc⟩ : ∃ c, c = kdP h.ks y := ⟨_, rfl⟩
    have hc' : h.ks.getD y.k.toNat default = c := hc.symm
    rw [← hc] at eg
    have x0 := hx.1; have x1 := hx.2
    have k0 := hk.1; have k1 := hk.2
    simp (disch := first | assumption | omega | (simp only [az]; done)) only [ru, eq_self, if_true, if_false, BEq.rfl, binI, AO.row?, splice, fillL, mmAll, loadV, storeV, zeros, Am.rowAt, Am.part, addOff, Nat.reduceAdd, Nat.reduceMul, Nat.reduceLeDiff, Nat.reduceSub, Nat.reduceLT, Int.reduceEq, Int.reduceLT, Int.reduceLE, Int.reduceGT, Int.reduceGE, Int.reduceAdd, Int.reduceSub, Int.reduceMul, Int.reduceNeg, Int.reduceToNat, reduceCtorEq, reduceIte, lenV_sl H.k, lenV_sl H.p, lenV_sl H.b, elem_kd H.k, elem_pr H.p, elem_in H.b, view_sl H.k, view_sl H.p, view_sl H.b, scalar_sl H.k, scalar_sl H.p, scalar_sl H.b, cells_sl H.k, cells_sl H.p, cells_sl H.b, pure_sl H.k, pure_sl H.p, pure_sl H.b, Int.toNat_natCast, lenV_sl V, elem_in V, view_sl V, scalar_sl V, cells_sl V, pure_sl V, Int.toNat_natCast, hlt, ← ex, x0, x1, ← hy, k0, k1, hc']
    exact ih (l.length - (i + 1)) _ _ _ (by omega) ⟨i + 1, _, _, by omega, rfl, rfl, rfl, rfl, rfl, rfl, rfl, rfl, rfl, rfl, rfl, by rw [eg]; rfl⟩
  obtain rfl : i = l.length := by omega
  rw [List.take_length]
  simp only [ldc]
  simp (disch := first | assumption | omega | (simp only [az]; done)) only [ru, eq_self, if_true, if_false, BEq.rfl, binI, AO.row?, splice, fillL, mmAll, loadV, storeV, zeros, Am.rowAt, Am.part, addOff, Nat.reduceAdd, Nat.reduceMul, Nat.reduceLeDiff, Nat.reduceSub, Nat.reduceLT, Int.reduceEq, Int.reduceLT, Int.reduceLE, Int.reduceGT, Int.reduceGE, Int.reduceAdd, Int.reduceSub, Int.reduceMul, Int.reduceNeg, Int.reduceToNat, reduceCtorEq, reduceIte, hlt, finC, getRes, Option.some.injEq, exists_eq_left']
theorem s68 (H : HsOk h k p b) (G : HG h) {l : List Pr} (P : PG l) (hl : l.length ≤ 1000) (st : Bool) : Iso E 48 [hsV h.fl k p b, .agg (ldc h.ks l)] st = some (I (slP h.ks h.fl l)) := by
  refine Iso_of (es _ _ _ _) e48 ?_
  simp only [f48, hsV, ldc, slP]
  by_cases h0 : l.length = 0
  · have h0' : (l.length : Int) = 0 := by omega
    simp (disch := first | assumption | omega | (simp only [az]; done)) only [ru, eq_self, if_true, if_false, BEq.rfl, binI, AO.row?, splice, fillL, mmAll, loadV, storeV, zeros, Am.rowAt, Am.part, addOff, Nat.reduceAdd, Nat.reduceMul, Nat.reduceLeDiff, Nat.reduceSub, Nat.reduceLT, Int.reduceEq, Int.reduceLT, Int.reduceLE, Int.reduceGT, Int.reduceGE, Int.reduceAdd, Int.reduceSub, Int.reduceMul, Int.reduceNeg, Int.reduceToNat, reduceCtorEq, reduceIte, lenV_sl H.k, lenV_sl H.p, lenV_sl H.b, elem_kd H.k, elem_pr H.p, elem_in H.b, view_sl H.k, view_sl H.p, view_sl H.b, scalar_sl H.k, scalar_sl H.p, scalar_sl H.b, cells_sl H.k, cells_sl H.p, cells_sl H.b, pure_sl H.k, pure_sl H.p, pure_sl H.b, Int.toNat_natCast, h0, h0', decide_true]
    done
  have h0' : ¬ (l.length : Int) = 0 := by omega
  have b1 := lb_bd P
  have b2 := st_bd G.g l
  have b3 : lbP l * stP h.ks l ≤ (40 * l.length) * 9 := Int.mul_le_mul b1.2 b2.2 b2.1 (by omega)
  have b4 : 0 ≤ lbP l * stP h.ks l := Int.mul_nonneg b1.1 b2.1
  have b5 := G.g.f
  obtain ⟨z, hz⟩ : ∃ z, z = lbP l * stP h.ks l := ⟨_, rfl⟩
  have e5 : (z + 9).tdiv 10 = (z + 9) / 10 := Int.tdiv_eq_ediv_of_nonneg (by omega)
  rw [← hz] at b3 b4
  simp (disch := first | assumption | omega | (simp only [az]; done)) only [ru, eq_self, if_true, if_false, BEq.rfl, binI, AO.row?, splice, fillL, mmAll, loadV, storeV, zeros, Am.rowAt, Am.part, addOff, Nat.reduceAdd, Nat.reduceMul, Nat.reduceLeDiff, Nat.reduceSub, Nat.reduceLT, Int.reduceEq, Int.reduceLT, Int.reduceLE, Int.reduceGT, Int.reduceGE, Int.reduceAdd, Int.reduceSub, Int.reduceMul, Int.reduceNeg, Int.reduceToNat, reduceCtorEq, reduceIte, lenV_sl H.k, lenV_sl H.p, lenV_sl H.b, elem_kd H.k, elem_pr H.p, elem_in H.b, view_sl H.k, view_sl H.p, view_sl H.b, scalar_sl H.k, scalar_sl H.p, scalar_sl H.b, cells_sl H.k, cells_sl H.p, cells_sl H.b, pure_sl H.k, pure_sl H.p, pure_sl H.b, Int.toNat_natCast, h0, h0', ← hz, e5, Int.reduceEq, decide_false]
theorem s111 (H : HsOk h k p b) (G : HG h) {l : List Pr} (P : PG l) (hl : l.length ≤ 1000) (st : Bool) : Iso E 74 [hsV h.fl k p b, .agg (ldc h.ks l)] st = some (I (ndP h.ks h.fl l)) := by
  have a := fun st => s68 H G P hl st
  simp only [hsV, ldc] at a
  have b1 := lb_bd P
  have b2 := sl_bd G.g P
  refine Iso_of (es _ _ _ _) e74 ?_
  simp only [f74, hsV, ldc, ndP]
  simp (disch := first | assumption | omega | (simp only [az]; done)) only [ru, eq_self, if_true, if_false, BEq.rfl, binI, AO.row?, splice, fillL, mmAll, loadV, storeV, zeros, Am.rowAt, Am.part, addOff, Nat.reduceAdd, Nat.reduceMul, Nat.reduceLeDiff, Nat.reduceSub, Nat.reduceLT, Int.reduceEq, Int.reduceLT, Int.reduceLE, Int.reduceGT, Int.reduceGE, Int.reduceAdd, Int.reduceSub, Int.reduceMul, Int.reduceNeg, Int.reduceToNat, reduceCtorEq, reduceIte, lenV_sl H.k, lenV_sl H.p, lenV_sl H.b, elem_kd H.k, elem_pr H.p, elem_in H.b, view_sl H.k, view_sl H.p, view_sl H.b, scalar_sl H.k, scalar_sl H.p, scalar_sl H.b, cells_sl H.k, cells_sl H.p, cells_sl H.b, pure_sl H.k, pure_sl H.p, pure_sl H.b, Int.toNat_natCast, a]
end
end Go.Proofs.Ytaffjmjahenoaaa.A

/-
The program: a part more, what a list lays down, what loads come to.
-/
namespace Go.Proofs.Ytaffjmjahenoaaa.A
open Go Go.Am Go.Proofs.Ytaffjmjahenoaaa.T
set_option maxRecDepth 100000
set_option linter.unusedSimpArgs false
set_option linter.unusedVariables false

section
variable {h : Hs} {k p b : AV}
theorem prs_le (G : HG h) (x : List Int) (c : Int) : (prs h.ps x c).length ≤ 6 := Nat.le_trans prs_len G.np
set_option maxHeartbeats 2000000 in
theorem s97 (H : HsOk h k p b) (G : HG h) {x : List Int} (hx : x.length < h.ps.length) {c : Nat} (hc : c < h.bs.length) (st : Bool) :
    Iso E 81 [hsV h.fl k p b, .agg (lds h x), I x.length, I c] st = some (.tup [.agg (lds h (x ++ [(c : Int)])), Bo (decide (ndP h.ks h.fl (prs h.ps (x ++ [(c : Int)]) c) ≤ h.bs.getD c 0))]) := by
  have np := G.np; have nb := G.nb
  have L1 : InP h [(x.length : Int)] := by
    intro i hi
    have hi0 : i = 0 := by simp at hi; omega
    subst hi0
    show (0 : Int) ≤ (x.length : Int) ∧ (x.length : Int) < h.ps.length
    omega
  have a1 := fun st => s69 H G (G.pp x c) (by have := prs_le G x c; omega) (v := .cs 1 1 [I (x.length : Int)]) (l := [(x.length : Int)]) (.inl rfl) (by simp) L1 st
  have ep : prs h.ps x c ++ h.pts [(x.length : Int)] = prs h.ps (x ++ [(c : Int)]) c := by
    rw [prs_snoc hx, if_pos rfl]; rfl
  rw [ep] at a1
  have a2 := fun st => s111 H G (G.pp (x ++ [(c : Int)]) c) (by have := prs_le G (x ++ [(c : Int)]) c; omega) st
  have g0 := lds_get (h := h) (x := x) (i := c) (by omega)
  have g1 := lds_put (h := h) (x := x) (i := c) (by omega) hx
  have g2 := lds_get (h := h) (x := x ++ [(c : Int)]) (i := c) (by omega)
  have ll := lds_len (h := h) (x := x)
  have ll' := lds_len (h := h) (x := x ++ [(c : Int)])
  have iv := lds_iv (h := h) (x := x)
  have iv' := lds_iv (h := h) (x := x ++ [(c : Int)])
  simp only [hsV] at a1 a2
  obtain ⟨A, hA⟩ : ∃ A, A = ldc h.ks (prs h.ps x c) := ⟨_, rfl⟩
  obtain ⟨B, hB⟩ : ∃ B, B = ldc h.ks (prs h.ps (x ++ [(c : Int)]) c) := ⟨_, rfl⟩
  obtain ⟨Z, hZ⟩ : ∃ Z, Z = lds h x := ⟨_, rfl⟩
  obtain ⟨Y, hY⟩ : ∃ Y, Y = lds h (x ++ [(c : Int)]) := ⟨_, rfl⟩
  have Al : A.length = 4 := by rw [hA]; rfl
  have Bl : B.length = 4 := by rw [hB]; rfl
  have Ai : IvL A := by rw [hA]; exact ldc_iv
  have Bi : IvL B := by rw [hB]; exact ldc_iv
  rw [← hA, ← hB] at a1
  rw [← hB] at a2
  rw [← hZ, ← hA] at g0
  rw [← hZ, ← hY, ← hB] at g1
  rw [← hY, ← hB] at g2
  rw [← hZ] at ll iv
  rw [← hY] at ll' iv'
  rw [← hZ, ← hY]
  have tk : Y.take 16 = Y := List.take_of_length_le (by omega)
  have tkA : A.take 4 = A := List.take_of_length_le (by omega)
  obtain ⟨y, hy⟩ : ∃ y, y = h.bs.getD c 0 := ⟨_, rfl⟩
  obtain ⟨w, hw⟩ : ∃ w, w = ndP h.ks h.fl (prs h.ps (x ++ [(c : Int)]) c) := ⟨_, rfl⟩
  rw [← hw] at a2
  rw [← hy, ← hw]
  have c0 : (0 : Int) ≤ c := by omega
  have c4 : (c : Int) < 4 := by omega
  have cb : (c : Int) < h.bs.length := by omega
  have fit : c * 4 + 4 ≤ 16 := by omega
  have n02 : ((0 : Nat) != 2) = true := rfl
  refine Iso_of (es _ _ _ _) e81 ?_
  simp only [f81, hsV]
  simp (disch := first | assumption | omega | (simp only [az]; done)) only [ru, eq_self, if_true, if_false, BEq.rfl, binI, AO.row?, splice, fillL, mmAll, loadV, storeV, zeros, Am.rowAt, Am.part, addOff, Nat.reduceAdd, Nat.reduceMul, Nat.reduceLeDiff, Nat.reduceSub, Nat.reduceLT, Int.reduceEq, Int.reduceLT, Int.reduceLE, Int.reduceGT, Int.reduceGE, Int.reduceAdd, Int.reduceSub, Int.reduceMul, Int.reduceNeg, Int.reduceToNat, reduceCtorEq, reduceIte, lenV_sl H.k, lenV_sl H.p, lenV_sl H.b, elem_kd H.k, elem_pr H.p, elem_in H.b, view_sl H.k, view_sl H.p, view_sl H.b, scalar_sl H.k, scalar_sl H.p, scalar_sl H.b, cells_sl H.k, cells_sl H.p, cells_sl H.b, pure_sl H.k, pure_sl H.p, pure_sl H.b, Int.toNat_natCast, rmr, exOp_litS, exOp_loadR, exOp_storeR, objIs, objNot, BEq.rfl, n02, c0, c4, cb, g0, Al, Bl, ll, ll', fit, iv_sc Bi, iv_sc iv', iv_view Ai, iv_view Bi, iv_view iv, iv_view iv', iv_pure Ai, iv_pure Bi, iv_pure iv', a1, g1, g2, tk, tkA, a2, ← hy, objNotA, List.all_cons, List.all_nil, finC2, getRes, Option.some.injEq, exists_eq_left', AV.pureV.go, AV.pureV, Bool.and_true, List.append_assoc]
/-- with one part more in a barrel -/
theorem ft_snoc (G : HG h) {x : List Int} {c : Nat} (hx : x.length < h.ps.length) (hc : c < h.bs.length) (hf : h.ft x = true) : h.ft (x ++ [(c : Int)]) = decide (ndP h.ks h.fl (prs h.ps (x ++ [(c : Int)]) c) ≤ h.bs.getD c 0) := by
  rw [Bool.eq_iff_iff, Hs.ft_iff, decide_eq_true_eq]
  constructor
  · intro h1; exact h1 c hc
  · intro h1 d hd
    by_cases e : d = c
    · subst e; exact h1
    · rw [prs_snoc hx, if_neg (by omega), List.append_nil]
      exact Hs.ft_iff.1 hf d hd
theorem ft_nil (G : HG h) : h.ft [] = true := Hs.ft_iff.2 fun b hb => by
  have e : prs h.ps [] b = [] := by simp [prs]
  rw [e]
  exact (G.b b hb).1
end
end Go.Proofs.Ytaffjmjahenoaaa.A

/-
The program: sums over the barrels, salts, packings that are asked for.
-/
namespace Go.Proofs.Ytaffjmjahenoaaa.A
open Go Go.Am Go.Proofs.Ytaffjmjahenoaaa.T
set_option maxRecDepth 100000
set_option linter.unusedSimpArgs false
set_option linter.unusedVariables false

section
variable {h : Hs} {k p b : AV}
theorem prs_bd (G : HG h) (x : List Int) (c : Int) : 0 ≤ lbP (prs h.ps x c) ∧ lbP (prs h.ps x c) ≤ 240 ∧ 0 ≤ slP h.ks h.fl (prs h.ps x c) ∧ slP h.ks h.fl (prs h.ps x c) ≤ 240 := by
  have h1 := lb_bd (G.pp x c)
  have h2 := sl_bd G.g (G.pp x c)
  have h3 := prs_len (ps := h.ps) (x := x) (b := c)
  have := G.np
  omega
theorem sums_bd {f : Nat → Int} {m : Int} (hf : ∀ i, 0 ≤ f i ∧ f i ≤ m) : ∀ n : Nat, 0 ≤ sums n f ∧ sums n f ≤ m * n
  | 0 => by simp [sums, sm]
  | n + 1 => by
    have := sums_bd hf n
    have h2 := hf n
    rw [sums_succ]
    have e : m * ((n + 1 : Nat) : Int) = m * n + m := by push_cast; rw [Int.mul_add, Int.mul_one]
    rw [e]
    omega
theorem at2 {α : Type} {g : List α} {a b : α} : (g ++ [a] ++ [b])[g.length + 1]? = some b := by simp
abbrev HHC (h : Hs) (k p b : AV) : AO := .cells [k, I h.fl, p, b] false
set_option maxHeartbeats 2000000 in
theorem q77 (H : HsOk h k p b) (G : HG h) (x : List Int) (g : List AO) : Ro E 36 [hsV h.fl k p b, .agg (lds h x)] g = some (I (sums 4 fun c => slP h.ks h.fl (prs h.ps x c))) := by
  have a1 := fun (c : Nat) st => s68 H G (G.pp x c) (by have := prs_le G x c; omega) st
  have g0 := fun (i : Nat) (hi : i < 4) => lds_get (h := h) (x := x) (i := i) hi
  have ll := lds_len (h := h) (x := x)
  have iv := lds_iv (h := h) (x := x)
  have es1 := fun n => sums_succ (n := n) (f := fun c => slP h.ks h.fl (prs h.ps x c))
  have sb := fun n => sums_bd (f := fun c => slP h.ks h.fl (prs h.ps x c)) (m := 240) (fun i => ⟨(prs_bd G x i).2.2.1, (prs_bd G x i).2.2.2⟩) n
  have rb := fun (n : Nat) => prs_bd G x n
  have rl := fun (c : Nat) => ldc_iv (ks := h.ks) (l := prs h.ps x c)
  have rlen := fun (c : Nat) => (show (ldc h.ks (prs h.ps x c)).length = 4 from rfl)
  simp only [hsV] at a1
  obtain ⟨S, hS⟩ : ∃ S : Nat → Int, S = fun n => sums n fun c => slP h.ks h.fl (prs h.ps x c) := ⟨_, rfl⟩
  obtain ⟨A, hA⟩ : ∃ A : Nat → List AV, A = fun (c : Nat) => ldc h.ks (prs h.ps x c) := ⟨_, rfl⟩
  obtain ⟨B, hB⟩ : ∃ B : Nat → Int, B = fun (c : Nat) => slP h.ks h.fl (prs h.ps x c) := ⟨_, rfl⟩
  obtain ⟨Z, hZ⟩ : ∃ Z, Z = lds h x := ⟨_, rfl⟩
  have eS : ∀ n, S (n + 1) = S n + B n := fun n => by rw [hS, hB]; exact es1 n
  have eA : ∀ c : Nat, (Z.drop (c * 4)).take 4 = A c ∨ ¬ c < 4 := fun c => by
    by_cases hc : c < 4
    · rw [hZ, hA]; exact .inl (g0 c hc)
    · exact .inr hc
  have a1' : ∀ (c : Nat) st, Iso E 48 [.agg [k, I h.fl, p, b], .agg (A c)] st = some (I (B c)) := fun c st => by rw [hA, hB]; exact a1 c st
  have bS : ∀ n, 0 ≤ S n ∧ S n ≤ 240 * n := fun n => by rw [hS]; exact sb n
  have bB : ∀ n, 0 ≤ B n ∧ B n ≤ 240 := fun n => by rw [hB]; exact ⟨(rb n).2.2.1, (rb n).2.2.2⟩
  have lA : ∀ c, (A c).length = 4 := fun c => by rw [hA]; rfl
  have iA : ∀ c, IvL (A c) := fun c => by rw [hA]; exact rl c
  have S0 : S 0 = 0 := by rw [hS]; rfl
  rw [show (sums 4 fun c => slP h.ks h.fl (prs h.ps x c)) = S 4 by rw [hS]]
  rw [← hZ] at ll iv ⊢
  clear hS hA hB hZ a1 g0 es1 sb rb rl rlen
  have tk : Z.take 16 = Z := List.take_of_length_le (by omega)
  refine Ro_of (es _ _ _ _) e36 ?_
  simp only [f36, hsV]
  simp (disch := first | assumption | omega | (simp only [az]; done)) only [ru, eq_self, if_true, if_false, BEq.rfl, binI, AO.row?, splice, fillL, mmAll, loadV, storeV, zeros, Am.rowAt, Am.part, addOff, Nat.reduceAdd, Nat.reduceMul, Nat.reduceLeDiff, Nat.reduceSub, Nat.reduceLT, Int.reduceEq, Int.reduceLT, Int.reduceLE, Int.reduceGT, Int.reduceGE, Int.reduceAdd, Int.reduceSub, Int.reduceMul, Int.reduceNeg, Int.reduceToNat, reduceCtorEq, reduceIte, lenV_sl H.k, lenV_sl H.p, lenV_sl H.b, elem_kd H.k, elem_pr H.p, elem_in H.b, view_sl H.k, view_sl H.p, view_sl H.b, scalar_sl H.k, scalar_sl H.p, scalar_sl H.b, cells_sl H.k, cells_sl H.p, cells_sl H.b, pure_sl H.k, pure_sl H.p, pure_sl H.b, Int.toNat_natCast, rmr, ll, tk, iv_sc iv, at2, atE, lenE]
  refine G_loop_ind (fun m ts hh mk => ∃ i : Nat, i ≤ 4 ∧ m = 4 - i ∧ ts.length = 19 ∧ ts.getD 2 .undef = .ptr g.length 0 ∧ ts.getD 5 .undef = I (S i) ∧ ts.getD 8 .undef = .agg Z ∧ ts.getD 9 .undef = I i ∧ hh[g.length]? = some (HHC h k p b) ∧ g.length < hh.length ∧ mk = []) ?_ 4 _ _ _ ?_
  rotate_left
  · exact ⟨0, by omega, rfl, rfl, rfl, by rw [S0]; rfl, rfl, rfl, by simp, by simp, rfl⟩
  rintro m ts hh mk ih ⟨i, hi', rfl, hl', q2, q5, q8, q9, c0, ol, rfl⟩
  rw [lit_all hl']
  simp only [lit0, litS, Nat.reduceAdd, q2, q5, q8, q9]
  simp (disch := first | assumption | omega | (simp only [az]; done)) only [ru, eq_self, if_true, if_false, BEq.rfl, binI, AO.row?, splice, fillL, mmAll, loadV, storeV, zeros, Am.rowAt, Am.part, addOff, Nat.reduceAdd, Nat.reduceMul, Nat.reduceLeDiff, Nat.reduceSub, Nat.reduceLT, Int.reduceEq, Int.reduceLT, Int.reduceLE, Int.reduceGT, Int.reduceGE, Int.reduceAdd, Int.reduceSub, Int.reduceMul, Int.reduceNeg, Int.reduceToNat, reduceCtorEq, reduceIte]
  by_cases hlt : (i : Int) < 4
  case pos =>
    have hi2 : i < 4 := by omega
    have eAi := (eA i).resolve_right (by omega)
    have b1 := bS i
    have b2 := bB i
    have w0 : (0 : Int) ≤ i := by omega
    have ol2 : g.length ≤ hh.length := by omega
    have e4 := eS i
    have A4 := lA i
    have tkA : (A i).take 4 = A i := List.take_of_length_le (by omega)
    have drA : (A i).drop 4 = [] := List.drop_of_length_le (by omega)
    simp (disch := first | assumption | omega | (simp only [az]; done)) only [ru, eq_self, if_true, if_false, BEq.rfl, binI, AO.row?, splice, fillL, mmAll, loadV, storeV, zeros, Am.rowAt, Am.part, addOff, Nat.reduceAdd, Nat.reduceMul, Nat.reduceLeDiff, Nat.reduceSub, Nat.reduceLT, Int.reduceEq, Int.reduceLT, Int.reduceLE, Int.reduceGT, Int.reduceGE, Int.reduceAdd, Int.reduceSub, Int.reduceMul, Int.reduceNeg, Int.reduceToNat, reduceCtorEq, reduceIte, lenV_sl H.k, lenV_sl H.p, lenV_sl H.b, elem_kd H.k, elem_pr H.p, elem_in H.b, view_sl H.k, view_sl H.p, view_sl H.b, scalar_sl H.k, scalar_sl H.p, scalar_sl H.b, cells_sl H.k, cells_sl H.p, cells_sl H.b, pure_sl H.k, pure_sl H.p, pure_sl H.b, Int.toNat_natCast, hlt, w0, ol2, ll, eAi, A4, tkA, drA, List.append_nil, iv_sc (iA i), iv_view (iA i), iv_pure (iA i), a1', c0, at_ap ol, atE, setE]
    refine ih (4 - (i + 1)) _ _ _ (by omega) ⟨i + 1, by omega, rfl, rfl, rfl, ?_, rfl, rfl, ?_, ?_, rfl⟩
    · rw [e4]; rfl
    · rw [at_ap ol]; exact c0
    · simp; omega
  obtain rfl : i = 4 := by omega
  simp (disch := first | assumption | omega | (simp only [az]; done)) only [ru, eq_self, if_true, if_false, BEq.rfl, binI, AO.row?, splice, fillL, mmAll, loadV, storeV, zeros, Am.rowAt, Am.part, addOff, Nat.reduceAdd, Nat.reduceMul, Nat.reduceLeDiff, Nat.reduceSub, Nat.reduceLT, Int.reduceEq, Int.reduceLT, Int.reduceLE, Int.reduceGT, Int.reduceGE, Int.reduceAdd, Int.reduceSub, Int.reduceMul, Int.reduceNeg, Int.reduceToNat, reduceCtorEq, reduceIte, hlt]
  rfl
/-- the rows of the loads -/
theorem lds_rows (G : HG h) (x : List Int) : ∃ (Z : List AV) (n l s d : Nat → Int), Z = lds h x ∧ Z.length = 16 ∧ IvL Z ∧ (∀ c : Nat, n c = ((prs h.ps x c).length : Int)) ∧ (∀ c : Nat, l c = lbP (prs h.ps x c)) ∧ (∀ c : Nat, s c = stP h.ks (prs h.ps x c)) ∧ (∀ c : Nat, d c = dyP h.ks (prs h.ps x c)) ∧
    (∀ c, c < 4 → (Z.drop (c * 4)).take 4 = [I (n c), I (l c), I (s c), I (d c)]) := by
  refine ⟨_, fun c => ((prs h.ps x c).length : Int), fun c => lbP (prs h.ps x c), fun c => stP h.ks (prs h.ps x c), fun c => dyP h.ks (prs h.ps x c), rfl, lds_len, lds_iv, fun _ => rfl, fun _ => rfl, fun _ => rfl, fun _ => rfl, fun c hc => ?_⟩
  rw [lds_get hc]; rfl
set_option maxHeartbeats 2000000 in
theorem q79 (H : HsOk h k p b) (G : HG h) (x : List Int) (g : List AO) : Ro E 43 [hsV h.fl k p b, .agg (lds h x)] g = some (I (sums 4 fun c => if (prs h.ps x c).length = 0 then 0 else 1)) := by
  obtain ⟨Z, n, l, s, d, hZ, Zl, iv, en, _, _, _, er⟩ := lds_rows G x
  have e1 := fun i => sums_succ (n := i) (f := fun c => if (prs h.ps x c).length = 0 then 0 else 1)
  have sb := fun i => sums_bd (f := fun c => if (prs h.ps x c).length = 0 then 0 else 1) (m := 1) (fun i => by split <;> omega) i
  rw [← hZ]
  obtain ⟨S, hS⟩ : ∃ S : Nat → Int, S = fun n => sums n fun c => if (prs h.ps x c).length = 0 then 0 else 1 := ⟨_, rfl⟩
  rw [show (sums 4 fun c => if (prs h.ps x c).length = 0 then 0 else 1) = S 4 by rw [hS]]
  have eS : ∀ i, S (i + 1) = S i + (if n i = 0 then 0 else 1) := fun i => by
    rw [hS]; simp only; rw [e1]
    by_cases hc : (prs h.ps x i).length = 0
    · rw [if_pos hc, if_pos (by rw [en]; omega)]
    · rw [if_neg hc, if_neg (by rw [en]; omega)]
  have bS : ∀ i, 0 ≤ S i ∧ S i ≤ 1 * i := fun i => by rw [hS]; exact sb i
  have S0 : S 0 = 0 := by rw [hS]; rfl
  have n0 : ∀ c, 0 ≤ n c := fun c => by rw [en]; omega
  clear hS hZ e1 sb
  have tk : Z.take 16 = Z := List.take_of_length_le (by omega)
  refine Ro_of (es _ _ _ _) e43 ?_
  simp only [f43, hsV]
  simp (disch := first | assumption | omega | (simp only [az]; done)) only [ru, eq_self, if_true, if_false, BEq.rfl, binI, AO.row?, splice, fillL, mmAll, loadV, storeV, zeros, Am.rowAt, Am.part, addOff, Nat.reduceAdd, Nat.reduceMul, Nat.reduceLeDiff, Nat.reduceSub, Nat.reduceLT, Int.reduceEq, Int.reduceLT, Int.reduceLE, Int.reduceGT, Int.reduceGE, Int.reduceAdd, Int.reduceSub, Int.reduceMul, Int.reduceNeg, Int.reduceToNat, reduceCtorEq, reduceIte, lenV_sl H.k, lenV_sl H.p, lenV_sl H.b, elem_kd H.k, elem_pr H.p, elem_in H.b, view_sl H.k, view_sl H.p, view_sl H.b, scalar_sl H.k, scalar_sl H.p, scalar_sl H.b, cells_sl H.k, cells_sl H.p, cells_sl H.b, pure_sl H.k, pure_sl H.p, pure_sl H.b, Int.toNat_natCast, rmr, Zl, tk, iv_sc iv, at2, atE, lenE]
  refine G_loop_ind (fun m ts hh mk => ∃ i : Nat, i ≤ 4 ∧ m = 4 - i ∧ ts.length = 19 ∧ ts.getD 5 .undef = I (S i) ∧ ts.getD 8 .undef = .agg Z ∧ ts.getD 9 .undef = I i ∧ g.length ≤ hh.length ∧ mk = []) ?_ 4 _ _ _ ?_
  rotate_left
  · exact ⟨0, by omega, rfl, rfl, by rw [S0]; rfl, rfl, rfl, by simp, rfl⟩
  rintro m ts hh mk ih ⟨i, hi', rfl, hl', q5, q8, q9, ol2, rfl⟩
  rw [lit_all hl']
  simp only [lit0, litS, Nat.reduceAdd, q5, q8, q9]
  simp (disch := first | assumption | omega | (simp only [az]; done)) only [ru, eq_self, if_true, if_false, BEq.rfl, binI, AO.row?, splice, fillL, mmAll, loadV, storeV, zeros, Am.rowAt, Am.part, addOff, Nat.reduceAdd, Nat.reduceMul, Nat.reduceLeDiff, Nat.reduceSub, Nat.reduceLT, Int.reduceEq, Int.reduceLT, Int.reduceLE, Int.reduceGT, Int.reduceGE, Int.reduceAdd, Int.reduceSub, Int.reduceMul, Int.reduceNeg, Int.reduceToNat, reduceCtorEq, reduceIte]
  by_cases hlt : (i : Int) < 4
  case pos =>
    have hi2 : i < 4 := by omega
    have eAi := er i hi2
    have b1 := bS i
    have w0 : (0 : Int) ≤ i := by omega
    have e4 := eS i
    have ni := n0 i
    by_cases hc : n i = 0
    · have hc1 : ¬ n i > 0 := by omega
      rw [if_pos hc, Int.add_zero] at e4
      simp (disch := first | assumption | omega | (simp only [az]; done)) only [ru, eq_self, if_true, if_false, BEq.rfl, binI, AO.row?, splice, fillL, mmAll, loadV, storeV, zeros, Am.rowAt, Am.part, addOff, Nat.reduceAdd, Nat.reduceMul, Nat.reduceLeDiff, Nat.reduceSub, Nat.reduceLT, Int.reduceEq, Int.reduceLT, Int.reduceLE, Int.reduceGT, Int.reduceGE, Int.reduceAdd, Int.reduceSub, Int.reduceMul, Int.reduceNeg, Int.reduceToNat, reduceCtorEq, reduceIte, lenV_sl H.k, lenV_sl H.p, lenV_sl H.b, elem_kd H.k, elem_pr H.p, elem_in H.b, view_sl H.k, view_sl H.p, view_sl H.b, scalar_sl H.k, scalar_sl H.p, scalar_sl H.b, cells_sl H.k, cells_sl H.p, cells_sl H.b, pure_sl H.k, pure_sl H.p, pure_sl H.b, Int.toNat_natCast, hlt, w0, ol2, Zl, eAi, hc1, decide_false, atE, setE]
      refine ih (4 - (i + 1)) _ _ _ (by omega) ⟨i + 1, by omega, rfl, rfl, ?_, rfl, rfl, ?_, rfl⟩
      · rw [e4]; rfl
      · simp; omega
    · have hc1 : n i > 0 := by omega
      rw [if_neg hc] at e4
      simp (disch := first | assumption | omega | (simp only [az]; done)) only [ru, eq_self, if_true, if_false, BEq.rfl, binI, AO.row?, splice, fillL, mmAll, loadV, storeV, zeros, Am.rowAt, Am.part, addOff, Nat.reduceAdd, Nat.reduceMul, Nat.reduceLeDiff, Nat.reduceSub, Nat.reduceLT, Int.reduceEq, Int.reduceLT, Int.reduceLE, Int.reduceGT, Int.reduceGE, Int.reduceAdd, Int.reduceSub, Int.reduceMul, Int.reduceNeg, Int.reduceToNat, reduceCtorEq, reduceIte, lenV_sl H.k, lenV_sl H.p, lenV_sl H.b, elem_kd H.k, elem_pr H.p, elem_in H.b, view_sl H.k, view_sl H.p, view_sl H.b, scalar_sl H.k, scalar_sl H.p, scalar_sl H.b, cells_sl H.k, cells_sl H.p, cells_sl H.b, pure_sl H.k, pure_sl H.p, pure_sl H.b, Int.toNat_natCast, hlt, w0, ol2, Zl, eAi, hc1, decide_true, atE, setE]
      refine ih (4 - (i + 1)) _ _ _ (by omega) ⟨i + 1, by omega, rfl, rfl, ?_, rfl, rfl, ?_, rfl⟩
      · rw [e4]; rfl
      · simp; omega
  obtain rfl : i = 4 := by omega
  simp (disch := first | assumption | omega | (simp only [az]; done)) only [ru, eq_self, if_true, if_false, BEq.rfl, binI, AO.row?, splice, fillL, mmAll, loadV, storeV, zeros, Am.rowAt, Am.part, addOff, Nat.reduceAdd, Nat.reduceMul, Nat.reduceLeDiff, Nat.reduceSub, Nat.reduceLT, Int.reduceEq, Int.reduceLT, Int.reduceLE, Int.reduceGT, Int.reduceGE, Int.reduceAdd, Int.reduceSub, Int.reduceMul, Int.reduceNeg, Int.reduceToNat, reduceCtorEq, reduceIte, hlt]
  rfl
theorem q104 (H : HsOk h k p b) (G : HG h) {c : Nat} (hc : h.bs.length = c + 1) (x : List Int) (g : List AO) : Ro E 60 [hsV h.fl k p b, .agg (lds h x)] g = some (I (ndP h.ks h.fl (prs h.ps x c))) := by
  have nb := G.nb
  have a1 := fun st => s111 H G (G.pp x c) (by have := prs_le G x c; omega) st
  have g0 := lds_get (h := h) (x := x) (i := c) (by omega)
  have ll := lds_len (h := h) (x := x)
  have iv := lds_iv (h := h) (x := x)
  simp only [hsV] at a1
  obtain ⟨A, hA⟩ : ∃ A, A = ldc h.ks (prs h.ps x c) := ⟨_, rfl⟩
  have Al : A.length = 4 := by rw [hA]; rfl
  have Ai : IvL A := by rw [hA]; exact ldc_iv
  obtain ⟨Z, hZ⟩ : ∃ Z, Z = lds h x := ⟨_, rfl⟩
  rw [← hA] at a1
  rw [← hA, ← hZ] at g0
  rw [← hZ] at ll iv ⊢
  have tk : Z.take 16 = Z := List.take_of_length_le (by omega)
  have c1 : (h.bs.length : Int) - 1 = c := by omega
  have c0 : (0 : Int) ≤ c := by omega
  have c4 : (c : Int) < 4 := by omega
  refine Ro_of (es _ _ _ _) e60 ?_
  simp only [f60, hsV]
  have at3 : ∀ a b : AO, (g ++ [a] ++ [b])[g.length]? = some a := fun a b => by simp
  simp (disch := first | assumption | omega | (simp only [az]; done)) only [ru, eq_self, if_true, if_false, BEq.rfl, binI, AO.row?, splice, fillL, mmAll, loadV, storeV, zeros, Am.rowAt, Am.part, addOff, Nat.reduceAdd, Nat.reduceMul, Nat.reduceLeDiff, Nat.reduceSub, Nat.reduceLT, Int.reduceEq, Int.reduceLT, Int.reduceLE, Int.reduceGT, Int.reduceGE, Int.reduceAdd, Int.reduceSub, Int.reduceMul, Int.reduceNeg, Int.reduceToNat, reduceCtorEq, reduceIte, lenV_sl H.k, lenV_sl H.p, lenV_sl H.b, elem_kd H.k, elem_pr H.p, elem_in H.b, view_sl H.k, view_sl H.p, view_sl H.b, scalar_sl H.k, scalar_sl H.p, scalar_sl H.b, cells_sl H.k, cells_sl H.p, cells_sl H.b, pure_sl H.k, pure_sl H.p, pure_sl H.b, Int.toNat_natCast, rmr, c1, c0, c4, ll, tk, g0, Al, iv_sc iv, iv_sc Ai, iv_view Ai, iv_pure Ai, at2, at3, atE, lenE, a1]
  rfl
end
end Go.Proofs.Ytaffjmjahenoaaa.A

/-
The program's packings: a range over a function that yields them all, in one list that is written in place.
-/
namespace Go.Proofs.Ytaffjmjahenoaaa.A
open Go Go.Am Go.Proofs.Ytaffjmjahenoaaa.T
set_option maxRecDepth 100000
set_option linter.unusedSimpArgs false
set_option linter.unusedVariables false

/-- a list that lies in a row with room -/
def Lq (n : Nat) (g : List AO) (q : Nat) (F : List Int) : Prop := ∃ C, g[q]? = some (.cells C false) ∧ C.length = n ∧ C.take F.length = F.flatMap intL
/-- the same heap, up to an object -/
structure Lo (o : Nat) (g g' : List AO) : Prop where
  l : g.length ≤ g'.length
  k : ∀ j, j ≤ o → g'[j]? = g[j]?
/-- above it, the same but for the list -/
structure Hi (o q : Nat) (g g' : List AO) : Prop where
  l : g.length ≤ g'.length
  k : ∀ j, o < j → j < g.length → j ≠ q → g'[j]? = g[j]?
theorem Hi.trans {o q : Nat} {a b c : List AO} (h : Hi o q a b) (h' : Hi o q b c) : Hi o q a c := ⟨Nat.le_trans h.l h'.l, fun j h1 h2 h3 => (h'.k j h1 (Nat.lt_of_lt_of_le h2 h.l) h3).trans (h.k j h1 h2 h3)⟩
theorem Hi.of {o q : Nat} {g g' : List AO} (h : Fr g g') : Hi o q g g' := ⟨h.l, fun j _ hj _ => h.k j hj⟩
theorem Hi.ofk {o q : Nat} {g g' : List AO} (h : Fk (o + 1) g g') : Hi o q g g' := ⟨h.l, fun j h1 h2 _ => h.k j h1 h2⟩
theorem Hi.at {o q : Nat} {g g' : List AO} (F : Hi o q g g') {j : Nat} (h1 : o < j) (h3 : j ≠ q) {x : AO} (hx : g[j]? = some x) : g'[j]? = some x := by rw [F.k j h1 (List.getElem?_eq_some_iff.1 hx).1 h3]; exact hx
theorem Lq.fr {n : Nat} {g g' : List AO} {q : Nat} {F : List Int} (L : Lq n g q F) (h : Fr g g') : Lq n g' q F := by
  obtain ⟨C, h1, h2, h3⟩ := L; exact ⟨C, h.at h1, h2, h3⟩
theorem Lq.fk {n o : Nat} {g g' : List AO} {q : Nat} {F : List Int} (L : Lq n g q F) (h : Fk (o + 1) g g') (ho : o < q) : Lq n g' q F := by
  obtain ⟨C, h1, h2, h3⟩ := L; exact ⟨C, h.at ho h1, h2, h3⟩
theorem Lq.init {n : Nat} {g : List AO} {q : Nat} {F : List Int} {c : Int} (L : Lq n g q (F ++ [c])) : Lq n g q F := by
  obtain ⟨C, h1, h2, h3⟩ := L
  refine ⟨C, h1, h2, ?_⟩
  have e : C.take F.length = (C.take (F ++ [c]).length).take F.length := by rw [List.take_take]; congr 1; simp
  have e2 : (F.flatMap intL).length = F.length := flat1 F
  rw [e, h3, List.flatMap_append, ← e2, List.take_left]
theorem Lq.lt {n : Nat} {g : List AO} {q : Nat} {F : List Int} (L : Lq n g q F) : q < g.length := by
  obtain ⟨C, h1, _, _⟩ := L; exact (List.getElem?_eq_some_iff.1 h1).1
/-- an append in place -/
theorem Lq.put {n lim : Nat} {g : List AO} {q : Nat} {F : List Int} (L : Lq n g q F) (hF : F.length < n) (hl : lim ≤ q) (c : Int) :
    ∃ g', wApp lim g 1 (.mr 1 q 0 F.length n) (.cs 1 1 [I c]) = some (.mr 1 q 0 (F.length + 1) n, g') ∧ g'.length = g.length ∧ (∀ j, j ≠ q → g'[j]? = g[j]?) ∧ Lq n g' q (F ++ [c]) := by
  obtain ⟨C, h1, h2, h3⟩ := L
  refine ⟨_, wApp_ok (n := 1) (xs := [I c]) (by omega) rfl rfl rfl (by omega) h1 (by simp; omega) hl rfl, by simp, fun j hj => List.getElem?_set_ne (Ne.symm hj), ?_⟩
  refine ⟨_, List.getElem?_set_self (List.getElem?_eq_some_iff.1 h1).1, ?_, ?_⟩
  · simp only [splice, List.length_append, List.length_take, List.length_drop, List.length_cons, List.length_nil]; omega
  · have e2 : (C.take (F.length * 1)).length = F.length := by rw [List.length_take]; omega
    have e4 : (C.take (F.length * 1) ++ ([I c] ++ C.drop (F.length * 1 + [I c].length))).take (F ++ [c]).length = C.take (F.length * 1) ++ [I c] := by
      rw [List.take_append, List.take_of_length_le (by simp; omega), e2]
      simp
    simp only [splice]
    first
    | rw [e4, Nat.mul_one, h3, List.flatMap_append]; rfl
    | rw [List.append_assoc, e4, Nat.mul_one, h3, List.flatMap_append]; rfl

theorem exOp_wAppM {call : Am.Callee} {lim : Nat} {pl : Option Nat} {ρ : Opd → AV} {h : List AO} {e r : Nat} {s x : Opd} : exOp call lim pl ρ h (.w (.app e s x (some r))) = match ρ s with
    | .mr e' o off len room => if objIsA o (ρ (.t r)) = true then wApp lim h e (.mr e' o off len room) (ρ x) else none
    | _ => none := by
  cases hs : ρ s with
  | mr e' o off len room =>
    simp only
    by_cases hr : objIsA o (ρ (.t r)) = true
    · rw [if_pos hr]
      simp only [exOp, wex, wApp, optIs, and_true, hs]
      cases lenOf (ρ x) <;> cases Am.rowOf h (ρ x) <;> first | rfl | simp only [hr, and_true]
    · rw [if_neg hr]
      simp only [exOp, wex, wApp, optIs, and_true, hs]
      cases lenOf (ρ x) <;> cases Am.rowOf h (ρ x) <;> first | rfl | simp only [hr, and_false, if_false, Bool.false_eq_true]
  | _ => simp only [exOp, wex, hs]
section
variable {h : Hs} {k p b : AV}
theorem enP_zero {ok : List Int → Bool} {cs : List Int} {d : Nat} {F : List Int} : enP ok cs d F 0 0 = [] := rfl
theorem ens_no {ok : List Int → Bool} {cs : List Int} {d : Nat} {F : List Int} (hn : ok F = false) : ens ok cs d F = [] := by
  cases d <;> simp [ens, hn]
set_option maxHeartbeats 4000000 in
theorem r112 (H : HsOk h k p b) (G : HG h) {o q lim : Nat} (hlim : lim ≤ o) (hoq : o < q) {P : List (List Int) → List AO → Prop} {Q : List AO → Prop}
    (hP : ∀ D g g', P D g → Lo o g g' → P D g')
    (hstep : ∀ D F g, Lq h.ps.length g q F → P D g → Pkg h F → ∃ t g', R E (.rnd o) [.mr 1 q 0 F.length h.ps.length, .agg (lds h F)] g lim = some (Bo t, g') ∧ ((t = true ∧ P (D ++ [F]) g' ∧ Fk (o + 1) g g') ∨ (t = false ∧ Q g'))) :
    ∀ (d : Nat) (F : List Int) (D : List (List Int)) (g : List AO), F.length + d = h.ps.length → (∀ c ∈ F, 0 ≤ c ∧ c < h.bs.length) → h.ft F = true → Lq h.ps.length g q F → P D g →
    ∃ t g', R E (.fn 68) [hsV h.fl k p b, .mr 1 q 0 F.length h.ps.length, .agg (lds h F), .yld o] g lim = some (Bo t, g') ∧ ((t = true ∧ P (D ++ ens h.ft (upto h.bs.length) d F) g' ∧ Hi o q g g' ∧ Lq h.ps.length g' q F) ∨ (t = false ∧ Q g')) := by
  have np := G.np; have nb := G.nb
  intro d
  induction d with
  | zero =>
    intro F D g hd hF hft L hp
    have hl : (F.length : Int) = h.ps.length := by omega
    obtain ⟨g2, hg2⟩ : ∃ g2 : List AO, g2 = g ++ [HHC h k p b] ++ [.cells (lds h F) false] := ⟨_, rfl⟩
    have fr : Fr g g2 := by rw [hg2, List.append_assoc]; exact Fr.app g _
    have lt := L.lt
    obtain ⟨t, g', hr, hp'⟩ := hstep D F g2 (L.fr fr) (hP _ _ _ hp ⟨fr.l, fun j hj => fr.k j (by omega)⟩) ⟨by omega, hF, hft⟩
    have ll := lds_len (h := h) (x := F)
    have iv := lds_iv (h := h) (x := F)
    obtain ⟨Z, hZ⟩ : ∃ Z, Z = lds h F := ⟨_, rfl⟩
    rw [← hZ] at ll iv hr ⊢
    rw [← hZ] at hg2
    have tk : Z.take 16 = Z := List.take_of_length_le (by omega)
    rw [hg2] at hr
    refine (fun x => ?_ : (∃ r g', R E (.fn 68) [hsV h.fl k p b, .mr 1 q 0 F.length h.ps.length, .agg Z, .yld o] g lim = some (r, g') ∧ (∃ t, r = Bo t ∧ ((t = true ∧ P (D ++ ens h.ft (upto h.bs.length) 0 F) g' ∧ Hi o q g g' ∧ Lq h.ps.length g' q F) ∨ (t = false ∧ Q g')))) → _) (R_of _ (es _ _ _ _) e68 ?_)
    · obtain ⟨r, g', hr, t, rfl, hh⟩ := x; exact ⟨t, g', hr, hh⟩
    simp only [f68, hsV]
    simp (disch := first | assumption | omega | (simp only [az]; done)) only [ru, eq_self, if_true, if_false, BEq.rfl, binI, AO.row?, splice, fillL, mmAll, loadV, storeV, zeros, Am.rowAt, Am.part, addOff, Nat.reduceAdd, Nat.reduceMul, Nat.reduceLeDiff, Nat.reduceSub, Nat.reduceLT, Int.reduceEq, Int.reduceLT, Int.reduceLE, Int.reduceGT, Int.reduceGE, Int.reduceAdd, Int.reduceSub, Int.reduceMul, Int.reduceNeg, Int.reduceToNat, reduceCtorEq, reduceIte, lenV_sl H.k, lenV_sl H.p, lenV_sl H.b, elem_kd H.k, elem_pr H.p, elem_in H.b, view_sl H.k, view_sl H.p, view_sl H.b, scalar_sl H.k, scalar_sl H.p, scalar_sl H.b, cells_sl H.k, cells_sl H.p, cells_sl H.b, pure_sl H.k, pure_sl H.p, pure_sl H.b, Int.toNat_natCast, rmr, hl, ll, tk, iv_sc iv, at2, atE, lenE, decide_true, exOp_callv0, hr]
    refine ⟨t, rfl, ?_⟩
    rcases hp' with ⟨e, h1, h2⟩ | h1
    · refine .inl ⟨e, ?_, (Hi.of fr).trans (Hi.ofk h2), (L.fr fr).fk h2 hoq⟩
      simp only [ens, hft, if_true]; exact h1
    · exact .inr h1
  | succ d ih =>
    intro F D g hd hF hft L hp
    have hl : ¬ (F.length : Int) = h.ps.length := by omega
    obtain ⟨g2, hg2⟩ : ∃ g2 : List AO, g2 = g ++ [HHC h k p b] ++ [.cells (lds h F) false] := ⟨_, rfl⟩
    have fr : Fr g g2 := by rw [hg2, List.append_assoc]; exact Fr.app g _
    have g20 : g2[g.length]? = some (HHC h k p b) := by rw [hg2]; simp
    have g21 : g2[g.length + 1]? = some (.cells (lds h F) false) := by rw [hg2]; simp
    have lt := L.lt
    have ll := lds_len (h := h) (x := F)
    have iv := lds_iv (h := h) (x := F)
    have put := fun (c : Nat) (hc : c < h.bs.length) st => s97 H G (x := F) (by omega) (c := c) hc st
    have fts := fun (c : Nat) (hc : c < h.bs.length) => ft_snoc G (x := F) (c := c) (by omega) hc hft
    have ihc := fun (c : Nat) => ih (F ++ [(c : Int)])
    simp only [List.length_append, List.length_singleton] at ihc
    simp only [hsV] at put ihc
    obtain ⟨Z, hZ⟩ : ∃ Z, Z = lds h F := ⟨_, rfl⟩
    rw [← hZ] at ll iv put g21 hg2 ⊢
    have tk : Z.take 16 = Z := List.take_of_length_le (by omega)
    refine (fun x => ?_ : (∃ r g', R E (.fn 68) [hsV h.fl k p b, .mr 1 q 0 F.length h.ps.length, .agg Z, .yld o] g lim = some (r, g') ∧ (∃ t, r = Bo t ∧ ((t = true ∧ P (D ++ ens h.ft (upto h.bs.length) (d + 1) F) g' ∧ Hi o q g g' ∧ Lq h.ps.length g' q F) ∨ (t = false ∧ Q g')))) → _) (R_of _ (es _ _ _ _) e68 ?_)
    · obtain ⟨r, g', hr, t, rfl, hh⟩ := x; exact ⟨t, g', hr, hh⟩
    simp only [f68, hsV]
    have at3 : ∀ a b : AO, (g ++ [a] ++ [b])[g.length]? = some a := fun a b => by simp
    simp (disch := first | assumption | omega | (simp only [az]; done)) only [ru, eq_self, if_true, if_false, BEq.rfl, binI, AO.row?, splice, fillL, mmAll, loadV, storeV, zeros, Am.rowAt, Am.part, addOff, Nat.reduceAdd, Nat.reduceMul, Nat.reduceLeDiff, Nat.reduceSub, Nat.reduceLT, Int.reduceEq, Int.reduceLT, Int.reduceLE, Int.reduceGT, Int.reduceGE, Int.reduceAdd, Int.reduceSub, Int.reduceMul, Int.reduceNeg, Int.reduceToNat, reduceCtorEq, reduceIte, lenV_sl H.k, lenV_sl H.p, lenV_sl H.b, elem_kd H.k, elem_pr H.p, elem_in H.b, view_sl H.k, view_sl H.p, view_sl H.b, scalar_sl H.k, scalar_sl H.p, scalar_sl H.b, cells_sl H.k, cells_sl H.p, cells_sl H.b, pure_sl H.k, pure_sl H.p, pure_sl H.b, Int.toNat_natCast, rmr, hl, ll, tk, iv_sc iv, at2, at3, atE, lenE, decide_false]
    rw [← hg2]
    refine G_loop_ind (fun m ts hk mk => ∃ (j : Nat), j ≤ h.bs.length ∧ m = h.bs.length - j ∧ Hi o q g hk ∧ Lq h.ps.length hk q F ∧ hk[g.length]? = some (HHC h k p b) ∧ hk[g.length + 1]? = some (.cells Z false) ∧ P (D ++ enP h.ft (upto h.bs.length) d F 0 j) hk ∧
      ts.length = 51 ∧ ts.getD 1 .undef = .mr 1 q 0 F.length h.ps.length ∧ ts.getD 3 .undef = .yld o ∧ ts.getD 4 .undef = .ptr g.length 0 ∧ ts.getD 6 .undef = .ptr (g.length + 1) 0 ∧ ts.getD 9 .undef = I F.length ∧ ts.getD 26 .undef = I h.bs.length ∧ ts.getD 27 .undef = I j ∧ mk = []) ?_ h.bs.length _ _ _ ?_
    rotate_left
    · exact ⟨0, Nat.zero_le _, rfl, Hi.of fr, L.fr fr, g20, g21, by rw [enP_zero, List.append_nil]; exact hP _ _ _ hp ⟨fr.l, fun j hj => fr.k j (by omega)⟩, rfl, rfl, rfl, rfl, rfl, rfl, rfl, rfl, rfl⟩
    rintro m ts hk mk ihk ⟨j, hj, rfl, hi, Lk, c0, c1, hpk, hl', q1, q3, q4, q6, q9, q26, q27, rfl⟩
    rw [lit_all hl']
    simp only [lit0, litS, Nat.reduceAdd, q1, q3, q4, q6, q9, q26, q27]
    simp (disch := first | assumption | omega | (simp only [az]; done)) only [ru, eq_self, if_true, if_false, BEq.rfl, binI, AO.row?, splice, fillL, mmAll, loadV, storeV, zeros, Am.rowAt, Am.part, addOff, Nat.reduceAdd, Nat.reduceMul, Nat.reduceLeDiff, Nat.reduceSub, Nat.reduceLT, Int.reduceEq, Int.reduceLT, Int.reduceLE, Int.reduceGT, Int.reduceGE, Int.reduceAdd, Int.reduceSub, Int.reduceMul, Int.reduceNeg, Int.reduceToNat, reduceCtorEq, reduceIte]
    by_cases hlt : (j : Int) < h.bs.length
    case neg =>
      obtain rfl : j = h.bs.length := by omega
      simp (disch := first | assumption | omega | (simp only [az]; done)) only [ru, eq_self, if_true, if_false, BEq.rfl, binI, AO.row?, splice, fillL, mmAll, loadV, storeV, zeros, Am.rowAt, Am.part, addOff, Nat.reduceAdd, Nat.reduceMul, Nat.reduceLeDiff, Nat.reduceSub, Nat.reduceLT, Int.reduceEq, Int.reduceLT, Int.reduceLE, Int.reduceGT, Int.reduceGE, Int.reduceAdd, Int.reduceSub, Int.reduceMul, Int.reduceNeg, Int.reduceToNat, reduceCtorEq, reduceIte, hlt]
      refine ⟨true, rfl, .inl ⟨rfl, ?_, hi, Lk⟩⟩
      simp only [ens, hft, if_true]
      simp only [enP, csL_zero] at hpk
      exact hpk
    have hj2 : j < h.bs.length := by omega
    have a1 := put j hj2
    have ef := fts j hj2
    rw [← ef] at a1
    have es2 := enP_succ (ok := h.ft) (cs := upto h.bs.length) (d := d) (F := F) (lo := 0) (k := j)
    rw [Int.zero_add] at es2
    have ihj := ihc j
    have Yl := lds_len (h := h) (x := F ++ [(j : Int)])
    have Yi := lds_iv (h := h) (x := F ++ [(j : Int)])
    obtain ⟨Y, hY⟩ : ∃ Y, Y = lds h (F ++ [(j : Int)]) := ⟨_, rfl⟩
    rw [← hY] at a1 ihj Yl Yi
    have tkY : Y.take 16 = Y := List.take_of_length_le (by omega)
    have m0 : g.length < hk.length := (List.getElem?_eq_some_iff.1 c0).1
    have m1 : g.length + 1 < hk.length := (List.getElem?_eq_some_iff.1 c1).1
    have lo : lim ≤ hk.length := by omega
    cases hf : h.ft (F ++ [(j : Int)])
    · rw [hf] at a1
      simp (disch := first | assumption | omega | (simp only [az]; done)) only [ru, eq_self, if_true, if_false, BEq.rfl, binI, AO.row?, splice, fillL, mmAll, loadV, storeV, zeros, Am.rowAt, Am.part, addOff, Nat.reduceAdd, Nat.reduceMul, Nat.reduceLeDiff, Nat.reduceSub, Nat.reduceLT, Int.reduceEq, Int.reduceLT, Int.reduceLE, Int.reduceGT, Int.reduceGE, Int.reduceAdd, Int.reduceSub, Int.reduceMul, Int.reduceNeg, Int.reduceToNat, reduceCtorEq, reduceIte, lenV_sl H.k, lenV_sl H.p, lenV_sl H.b, elem_kd H.k, elem_pr H.p, elem_in H.b, view_sl H.k, view_sl H.p, view_sl H.b, scalar_sl H.k, scalar_sl H.p, scalar_sl H.b, cells_sl H.k, cells_sl H.p, cells_sl H.b, pure_sl H.k, pure_sl H.p, pure_sl H.b, Int.toNat_natCast, rmr, hlt, lo, ll, tk, iv_sc iv, iv_view iv, iv_pure iv, c0, c1, a1, Yl, tkY, iv_sc Yi, gUn, at_ap m0, at_ap m1, atE, setE, lenE, Bool.not_false]
      have fr1 := Fr.app hk [AO.cells Y false]
      refine ihk (h.bs.length - (j + 1)) _ _ _ (by omega) ⟨j + 1, by omega, rfl, hi.trans (Hi.of fr1), Lk.fr fr1, fr1.at c0, fr1.at c1, ?_, rfl, rfl, rfl, rfl, rfl, rfl, rfl, rfl, rfl⟩
      rw [es2, ens_no hf, List.append_nil]
      exact hP _ _ _ hpk ⟨fr1.l, fun i hi => fr1.k i (by omega)⟩
    rw [hf] at a1
    have fr1 := Fr.app hk [AO.cells Y false]
    obtain ⟨g3, hw, g3l, g3k, L3⟩ := (Lk.fr fr1).put (lim := lim) (by omega) (by omega) (j : Int)
    have d0 : g3[g.length]? = some (HHC h k p b) := by rw [g3k _ (by omega)]; exact fr1.at c0
    have d1 : g3[g.length + 1]? = some (.cells Z false) := by rw [g3k _ (by omega)]; exact fr1.at c1
    have ltk := Lk.lt
    have d2 : g3[hk.length]? = some (.cells Y false) := by rw [g3k _ (by omega)]; simp
    have n0 : (g.length != q) = true := by simp; omega
    have n1 : (hk.length != q) = true := by simp; omega
    have n0' : (q != g.length) = true := by simp; omega
    have n1' : (q != hk.length) = true := by simp; omega
    have hLo : Lo o hk g3 := ⟨by rw [g3l]; simp, fun i hi => by rw [g3k i (by omega)]; exact fr1.k i (by omega)⟩
    have hHi : Hi o q hk g3 := ⟨by rw [g3l]; simp, fun i h1 h2 h3 => by rw [g3k i h3]; exact fr1.k i h2⟩
    obtain ⟨t, g', hr, hp'⟩ := ihj (D ++ enP h.ft (upto h.bs.length) d F 0 j) g3 (by omega) (fun c hc => by
      rcases List.mem_append.1 hc with hc | hc
      · exact hF c hc
      · rw [List.mem_singleton] at hc; subst hc; omega) hf L3 (hP _ _ _ hpk hLo)
    rcases hp' with ⟨rfl, hp', hi', Lk'⟩ | ⟨rfl, hq⟩
    · simp (disch := first | assumption | omega | (simp only [az]; done)) only [ru, eq_self, if_true, if_false, BEq.rfl, binI, AO.row?, splice, fillL, mmAll, loadV, storeV, zeros, Am.rowAt, Am.part, addOff, Nat.reduceAdd, Nat.reduceMul, Nat.reduceLeDiff, Nat.reduceSub, Nat.reduceLT, Int.reduceEq, Int.reduceLT, Int.reduceLE, Int.reduceGT, Int.reduceGE, Int.reduceAdd, Int.reduceSub, Int.reduceMul, Int.reduceNeg, Int.reduceToNat, reduceCtorEq, reduceIte, lenV_sl H.k, lenV_sl H.p, lenV_sl H.b, elem_kd H.k, elem_pr H.p, elem_in H.b, view_sl H.k, view_sl H.p, view_sl H.b, scalar_sl H.k, scalar_sl H.p, scalar_sl H.b, cells_sl H.k, cells_sl H.p, cells_sl H.b, pure_sl H.k, pure_sl H.p, pure_sl H.b, Int.toNat_natCast, rmr, hlt, lo, ll, tk, iv_sc iv, iv_view iv, iv_pure iv, c0, c1, a1, Yl, tkY, iv_sc Yi, exOp_wAppM, objIsA, objNotA, BEq.rfl, n0, n1, n0', n1', hw, d0, d1, d2, at_ap m0, at_ap m1, atE, setE, lenE, Bool.not_true, exOp_call0, hr]
      refine ihk (h.bs.length - (j + 1)) _ _ _ (by omega) ⟨j + 1, by omega, rfl, hi.trans (hHi.trans hi'), Lk'.init, hi'.at (by omega) (by omega) d0, hi'.at (by omega) (by omega) d1, ?_, rfl, rfl, rfl, rfl, rfl, rfl, rfl, rfl, rfl⟩
      rw [es2, ← List.append_assoc]; exact hp'
    · simp (disch := first | assumption | omega | (simp only [az]; done)) only [ru, eq_self, if_true, if_false, BEq.rfl, binI, AO.row?, splice, fillL, mmAll, loadV, storeV, zeros, Am.rowAt, Am.part, addOff, Nat.reduceAdd, Nat.reduceMul, Nat.reduceLeDiff, Nat.reduceSub, Nat.reduceLT, Int.reduceEq, Int.reduceLT, Int.reduceLE, Int.reduceGT, Int.reduceGE, Int.reduceAdd, Int.reduceSub, Int.reduceMul, Int.reduceNeg, Int.reduceToNat, reduceCtorEq, reduceIte, lenV_sl H.k, lenV_sl H.p, lenV_sl H.b, elem_kd H.k, elem_pr H.p, elem_in H.b, view_sl H.k, view_sl H.p, view_sl H.b, scalar_sl H.k, scalar_sl H.p, scalar_sl H.b, cells_sl H.k, cells_sl H.p, cells_sl H.b, pure_sl H.k, pure_sl H.p, pure_sl H.b, Int.toNat_natCast, rmr, hlt, lo, ll, tk, iv_sc iv, iv_view iv, iv_pure iv, c0, c1, a1, Yl, tkY, iv_sc Yi, exOp_wAppM, objIsA, objNotA, BEq.rfl, n0, n1, n0', n1', hw, d0, d1, d2, at_ap m0, at_ap m1, atE, setE, lenE, Bool.not_false, exOp_call0, hr]
      exact ⟨false, rfl, .inr ⟨rfl, hq⟩⟩
theorem GO_smakeR {X : Cx} {base : Nat} {k : List KF} {ts : List AV} {h : List AO} {mk : List Nat} {r : List AOper} {d : Option Nat} {e eb s : Nat} {z : List AV} {l c : Opd} :
    GO X base (⟨d, .makeSlice true e eb z l c, none, some s, []⟩ :: r) k ts h mk = GX X base (match Opd.ev ts l, Opd.ev ts c with
    | .int _ l, .int _ c => if 0 ≤ l ∧ l ≤ c ∧ eb * c ≤ 140737488355328 ∧ 1 ≤ eb then some (.mr e (base + s) 0 l.toNat c.toNat, h.set (base + s) (.cells (zeros c.toNat z) false)) else none
    | _, _ => none) d r k ts mk := by
  rw [GO_slot]; rfl
theorem flat_rep {n : Nat} {a : AV} : (List.replicate n [a]).flatten = List.replicate n a := by
  induction n with
  | zero => rfl
  | succ n ih => rw [List.replicate_succ, List.flatten_cons, ih]; rfl
set_option maxHeartbeats 2000000 in
/-- the packings, each handed over -/
theorem r99 (H : HsOk h k p b) (G : HG h) {o lim : Nat} (hlim : lim ≤ o) {P : List (List Int) → List AO → Prop} {Q : List AO → Prop}
    (hP : ∀ D g g', P D g → Lo o g g' → P D g')
    (hstep : ∀ q D F g, o < q → Lq h.ps.length g q F → P D g → Pkg h F → ∃ t g', R E (.rnd o) [.mr 1 q 0 F.length h.ps.length, .agg (lds h F)] g lim = some (Bo t, g') ∧ ((t = true ∧ P (D ++ [F]) g' ∧ Fk (o + 1) g g') ∨ (t = false ∧ Q g')))
    {g : List AO} (ho : o < g.length) (h0 : P [] g) : ∃ r g', R E (.fn 47) [hsV h.fl k p b, .yld o] g lim = some (r, g') ∧ (P h.pk g' ∨ Q g') := by
  have np := G.np
  obtain ⟨g2, hg2⟩ : ∃ g2 : List AO, g2 = g ++ [HHC h k p b] ++ [.cells (List.replicate h.ps.length (I 0)) false] := ⟨_, rfl⟩
  have fr : Fr g g2 := by rw [hg2, List.append_assoc]; exact Fr.app g _
  have L : Lq h.ps.length g2 (g.length + 1) [] := ⟨_, by rw [hg2]; exact at2, by simp, by simp⟩
  obtain ⟨t, g', hr, hp⟩ := r112 H G (q := g.length + 1) hlim (by omega) hP (fun D F g => hstep _ D F g (by omega)) h.ps.length [] [] g2 (by simp) (by simp) (ft_nil G) L (hP _ _ _ h0 ⟨fr.l, fun j hj => fr.k j (by omega)⟩)
  rw [List.nil_append] at hp
  have l16 : lds h [] = [I 0, I 0, I 0, I 0, I 0, I 0, I 0, I 0, I 0, I 0, I 0, I 0, I 0, I 0, I 0, I 0] := by rw [lds_nil]; rfl
  rw [l16, hg2] at hr
  simp only [List.length_nil, hsV] at hr
  refine R_of _ (es _ _ _ _) e47 ?_
  simp only [f47, hsV]
  have b0 : (0 : Int) ≤ h.ps.length := by omega
  have s1 : ∀ a b c : AO, (g ++ [a] ++ [b]).set (g.length + 1) c = g ++ [a] ++ [c] := fun a b c => by rw [List.append_assoc, List.append_assoc, List.set_append_right _ _ (by omega), Nat.add_sub_cancel_left]; rfl
  have at3 : ∀ a b : AO, (g ++ [a] ++ [b])[g.length]? = some a := fun a b => by simp
  have b8 : (8 : Int) * h.ps.length ≤ 140737488355328 := by omega
  simp (disch := first | assumption | omega | (simp only [az]; done)) only [ru, eq_self, if_true, if_false, BEq.rfl, binI, AO.row?, splice, fillL, mmAll, loadV, storeV, zeros, Am.rowAt, Am.part, addOff, Nat.reduceAdd, Nat.reduceMul, Nat.reduceLeDiff, Nat.reduceSub, Nat.reduceLT, Int.reduceEq, Int.reduceLT, Int.reduceLE, Int.reduceGT, Int.reduceGE, Int.reduceAdd, Int.reduceSub, Int.reduceMul, Int.reduceNeg, Int.reduceToNat, reduceCtorEq, reduceIte, lenV_sl H.k, lenV_sl H.p, lenV_sl H.b, elem_kd H.k, elem_pr H.p, elem_in H.b, view_sl H.k, view_sl H.p, view_sl H.b, scalar_sl H.k, scalar_sl H.p, scalar_sl H.b, cells_sl H.k, cells_sl H.p, cells_sl H.b, pure_sl H.k, pure_sl H.p, pure_sl H.b, Int.toNat_natCast, rmr, GO_smakeR, GO_mcall0, unhN, unhC, exOp_call0, hr, fin0, fin0n, b0, b8, lenE, flat_rep, s1, at3]
  rcases hp with ⟨_, hp, _⟩ | ⟨_, hq⟩
  · exact .inl hp
  · exact .inr hq
end
end Go.Proofs.Ytaffjmjahenoaaa.A

/-
The program: whether there is a packing, the most that keeps early, the best packing.
-/
namespace Go.Proofs.Ytaffjmjahenoaaa.A
open Go Go.Am Go.Proofs.Ytaffjmjahenoaaa.T
set_option maxRecDepth 100000
set_option linter.unusedSimpArgs false
set_option linter.unusedVariables false

theorem Lo.at {o : Nat} {g g' : List AO} (F : Lo o g g') {j : Nat} (h1 : j ≤ o) {x : AO} (hx : g[j]? = some x) : g'[j]? = some x := by rw [F.k j h1]; exact hx
section
variable {h : Hs} {k p b : AV}
def As98 : ACode := .skip
def Bd98 : ACode := .block 1 (.seq (.region 0 [⟨none, .store 1 (.t 2) (.c (.bool true)), none, none, []⟩])
     (.ret))
set_option maxHeartbeats 4000000 in
theorem s98 (H : HsOk h k p b) (G : HG h) (st : Bool) : Iso E 46 [hsV h.fl k p b] st = some (Bo (decide (h.pk ≠ []))) := by
  refine Iso_of (es _ _ _ _) e46 ?_
  simp only [f46, hsV]
  simp (disch := first | assumption | omega | (simp only [az]; done)) only [ru, eq_self, if_true, if_false, BEq.rfl, binI, AO.row?, splice, fillL, mmAll, loadV, storeV, zeros, Am.rowAt, Am.part, addOff, Nat.reduceAdd, Nat.reduceMul, Nat.reduceLeDiff, Nat.reduceSub, Nat.reduceLT, Int.reduceEq, Int.reduceLT, Int.reduceLE, Int.reduceGT, Int.reduceGE, Int.reduceAdd, Int.reduceSub, Int.reduceMul, Int.reduceNeg, Int.reduceToNat, reduceCtorEq, reduceIte, lenV_sl H.k, lenV_sl H.p, lenV_sl H.b, elem_kd H.k, elem_pr H.p, elem_in H.b, view_sl H.k, view_sl H.p, view_sl H.b, scalar_sl H.k, scalar_sl H.p, scalar_sl H.b, cells_sl H.k, cells_sl H.p, cells_sl H.b, pure_sl H.k, pure_sl H.p, pure_sl H.b, Int.toNat_natCast]
  obtain ⟨TS, hTS⟩ : ∃ TS : List AV, TS = [.agg [k, I h.fl, p, b], .ptr 0 0, .ptr 1 0, .agg [k, I h.fl, p, b], .fn 47 [.agg [k, I h.fl, p, b]] [], .undef, .undef] := ⟨_, rfl⟩
  obtain ⟨H1, hH1⟩ : ∃ H1 : List AO, H1 = [.cells [k, I h.fl, p, b] false, .cells [Bo false] false, .dfr, .loop .ready none 46 TS [5, 6] As98 Bd98 2] := ⟨_, rfl⟩
  have key := r99 H G (o := 3) (lim := 0) (by omega)
    (P := fun D g => D = [] ∧ g[1]? = some (.cells [Bo false] false) ∧ g[2]? = some .dfr ∧ g[3]? = some (.loop .ready none 46 TS [5, 6] As98 Bd98 2))
    (Q := fun g => h.pk ≠ [] ∧ g[1]? = some (.cells [Bo true] false) ∧ g[2]? = some .dfr ∧ g[3]? = some (.loop .done (some .ret) 46 TS [5, 6] As98 Bd98 2))
    (by rintro D h h' ⟨a, b, c, d⟩ fr; exact ⟨a, fr.at (by omega) b, fr.at (by omega) c, fr.at (by omega) d⟩) ?_ (g := H1) (by rw [hH1]; simp) (by rw [hH1]; exact ⟨rfl, rfl, rfl, rfl⟩)
  · refine G_range_of rfl rfl ?_
    rw [← hTS]
    obtain ⟨r, h3, hr, ⟨g0, g1, g2, g3⟩ | ⟨g0, g1, g2, g3⟩⟩ := key
    · rw [hH1] at hr
      refine ⟨r, h3, .ready, none, 46, TS, [5, 6], As98, Bd98, 2, hr, g3, .inl rfl, ?_⟩
      simp only [Option.getD_none, GE_nrm]
      obtain ⟨h4, hh4⟩ : ∃ h4, h4 = h3.set (([.cells [k, I h.fl, p, b] false, .cells [Bo false] false] : List AO).length + 1) (AO.loop .exhausted none 46 TS [5, 6] As98 Bd98 2) := ⟨_, rfl⟩
      rw [← hh4]
      have k1 : h4[1]? = some (.cells [Bo false] false) := by rw [hh4, List.getElem?_set_ne (by simp)]; exact g1
      have k2 : h4[2]? = some .dfr := by rw [hh4, List.getElem?_set_ne (by simp)]; exact g2
      have l4 : 2 < h4.length := (List.getElem?_eq_some_iff.1 k2).1
      have e : decide (h.pk ≠ []) = false := by rw [g0]; rfl
      rw [hTS, e]
      have w1 : (h4.set 1 (.cells [Bo false] false))[1]? = some (.cells [Bo false] false) := List.getElem?_set_self (by omega)
      have w2 : (h4.set 1 (.cells [Bo false] false))[2]? = some .dfr := by rw [List.getElem?_set_ne (by omega)]; exact k2
      simp (disch := first | assumption | omega | (simp only [az]; done)) only [ru, eq_self, if_true, if_false, BEq.rfl, binI, AO.row?, splice, fillL, mmAll, loadV, storeV, zeros, Am.rowAt, Am.part, addOff, Nat.reduceAdd, Nat.reduceMul, Nat.reduceLeDiff, Nat.reduceSub, Nat.reduceLT, Int.reduceEq, Int.reduceLT, Int.reduceLE, Int.reduceGT, Int.reduceGE, Int.reduceAdd, Int.reduceSub, Int.reduceMul, Int.reduceNeg, Int.reduceToNat, reduceCtorEq, reduceIte, k1]
      refine finM (h' := (h4.set 1 (.cells [Bo false] false)).set 2 .tomb) (vs := [Bo false]) (.inr rfl) (by simp) ?_ ?_ ?_
      · simp only [takeMarks, List.length_cons, List.length_nil, w2]
      · have w3 : ((h4.set 1 (.cells [Bo false] false)).set 2 .tomb)[1]? = some (.cells [Bo false] false) := by rw [List.getElem?_set_ne (by omega)]; exact w1
        simp (disch := first | assumption | omega | (simp only [az]; done)) only [ru, eq_self, if_true, if_false, BEq.rfl, binI, AO.row?, splice, fillL, mmAll, loadV, storeV, zeros, Am.rowAt, Am.part, addOff, Nat.reduceAdd, Nat.reduceMul, Nat.reduceLeDiff, Nat.reduceSub, Nat.reduceLT, Int.reduceEq, Int.reduceLT, Int.reduceLE, Int.reduceGT, Int.reduceGE, Int.reduceAdd, Int.reduceSub, Int.reduceMul, Int.reduceNeg, Int.reduceToNat, reduceCtorEq, reduceIte, w3, List.mapM_cons, List.mapM_nil, getRes, Option.bind_eq_bind, Option.pure_def, Option.bind_some]
      · exact view_bool
    · rw [hH1] at hr
      refine ⟨r, h3, .done, some .ret, 46, TS, [5, 6], As98, Bd98, 2, hr, g3, .inr rfl, ?_⟩
      simp only [Option.getD_some, GE_ret]
      obtain ⟨h4, hh4⟩ : ∃ h4, h4 = h3.set (([.cells [k, I h.fl, p, b] false, .cells [Bo false] false] : List AO).length + 1) (AO.loop .exhausted (some .ret) 46 TS [5, 6] As98 Bd98 2) := ⟨_, rfl⟩
      rw [← hh4]
      have k1 : h4[1]? = some (.cells [Bo true] false) := by rw [hh4, List.getElem?_set_ne (by simp)]; exact g1
      have k2 : h4[2]? = some .dfr := by rw [hh4, List.getElem?_set_ne (by simp)]; exact g2
      have e : decide (h.pk ≠ []) = true := decide_eq_true g0
      rw [hTS, e]
      simp (disch := first | assumption | omega | (simp only [az]; done)) only [ru, eq_self, if_true, if_false, BEq.rfl, binI, AO.row?, splice, fillL, mmAll, loadV, storeV, zeros, Am.rowAt, Am.part, addOff, Nat.reduceAdd, Nat.reduceMul, Nat.reduceLeDiff, Nat.reduceSub, Nat.reduceLT, Int.reduceEq, Int.reduceLT, Int.reduceLE, Int.reduceGT, Int.reduceGE, Int.reduceAdd, Int.reduceSub, Int.reduceMul, Int.reduceNeg, Int.reduceToNat, reduceCtorEq, reduceIte]
      refine finM (h' := h4.set 2 .tomb) (vs := [Bo true]) (.inr rfl) (by simp) ?_ ?_ ?_
      · simp only [takeMarks, List.length_cons, List.length_nil, k2]
      · have w3 : (h4.set 2 .tomb)[1]? = some (.cells [Bo true] false) := by rw [List.getElem?_set_ne (by omega)]; exact k1
        simp (disch := first | assumption | omega | (simp only [az]; done)) only [ru, eq_self, if_true, if_false, BEq.rfl, binI, AO.row?, splice, fillL, mmAll, loadV, storeV, zeros, Am.rowAt, Am.part, addOff, Nat.reduceAdd, Nat.reduceMul, Nat.reduceLeDiff, Nat.reduceSub, Nat.reduceLT, Int.reduceEq, Int.reduceLT, Int.reduceLE, Int.reduceGT, Int.reduceGE, Int.reduceAdd, Int.reduceSub, Int.reduceMul, Int.reduceNeg, Int.reduceToNat, reduceCtorEq, reduceIte, w3, List.mapM_cons, List.mapM_nil, getRes, Option.bind_eq_bind, Option.pure_def, Option.bind_some]
      · exact view_bool
  · rintro q D F g hq L ⟨g0, g1, g2, g3⟩ hO
    have := R_rnd_of (E := E) (lim := 0) (args := [.mr 1 q 0 F.length h.ps.length, .agg (lds h F)]) (P := fun r h' => r = Bo false ∧ (h.pk ≠ [] ∧ h'[1]? = some (.cells [Bo true] false) ∧ h'[2]? = some .dfr ∧ h'[3]? = some (.loop .done (some .ret) 46 TS [5, 6] As98 Bd98 2))) g3 rfl (Nat.zero_le _) ?_
    · obtain ⟨r, h', hr, rfl, hp⟩ := this
      exact ⟨false, h', hr, .inr ⟨rfl, hp⟩⟩
    rw [hTS]
    simp only [setAll, List.set_cons_succ, List.set_cons_zero]
    unfold As98
    simp (disch := first | assumption | omega | (simp only [az]; done)) only [ru, eq_self, if_true, if_false, BEq.rfl, binI, AO.row?, splice, fillL, mmAll, loadV, storeV, zeros, Am.rowAt, Am.part, addOff, Nat.reduceAdd, Nat.reduceMul, Nat.reduceLeDiff, Nat.reduceSub, Nat.reduceLT, Int.reduceEq, Int.reduceLT, Int.reduceLE, Int.reduceGT, Int.reduceGE, Int.reduceAdd, Int.reduceSub, Int.reduceMul, Int.reduceNeg, Int.reduceToNat, reduceCtorEq, reduceIte]
    rw [← hTS]
    refine ⟨none, 46, TS, [5, 6], As98, Bd98, 2, g3, ?_⟩
    obtain ⟨h6, hh6⟩ : ∃ h6, h6 = g.set 3 (AO.loop .busy none 46 TS [5, 6] As98 Bd98 2) := ⟨_, rfl⟩
    rw [← hh6]
    have ho : 3 < g.length := (List.getElem?_eq_some_iff.1 g3).1
    have n1 : h6[1]? = some (.cells [Bo false] false) := by rw [hh6, List.getElem?_set_ne (by omega)]; exact g1
    have n2 : h6[2]? = some .dfr := by rw [hh6, List.getElem?_set_ne (by omega)]; exact g2
    have n3 : h6[3]? = some (AO.loop .busy none 46 TS [5, 6] As98 Bd98 2) := by rw [hh6, List.getElem?_set_self (by omega)]
    have l6 : h6.length = g.length := by rw [hh6]; simp
    unfold Bd98
    simp (disch := first | assumption | omega | (simp only [az]; done)) only [ru, eq_self, if_true, if_false, BEq.rfl, binI, AO.row?, splice, fillL, mmAll, loadV, storeV, zeros, Am.rowAt, Am.part, addOff, Nat.reduceAdd, Nat.reduceMul, Nat.reduceLeDiff, Nat.reduceSub, Nat.reduceLT, Int.reduceEq, Int.reduceLT, Int.reduceLE, Int.reduceGT, Int.reduceGE, Int.reduceAdd, Int.reduceSub, Int.reduceMul, Int.reduceNeg, Int.reduceToNat, reduceCtorEq, reduceIte, n1]
    refine ⟨.busy, none, 46, TS, [5, 6], As98, Bd98, 2, by rw [List.getElem?_set_ne (by omega)]; exact n3, ?_⟩
    refine ⟨rfl, (by intro e; have := G.mem_pk.2 hO; rw [e] at this; cases this), ?_, ?_, ?_⟩
    · rw [List.getElem?_set_ne (by omega), List.getElem?_set_self (by omega)]
    · rw [List.getElem?_set_ne (by omega), List.getElem?_set_ne (by omega)]; exact n2
    · rw [List.getElem?_set_self (by simp; omega)]; rfl

/-! the most that keeps early -/
theorem sum4 {f : Nat → Int} {n : Nat} (hn : n ≤ 4) (h : ∀ c, n ≤ c → f c = 0) : sums 4 f = sums n f := sums_zero hn fun c h1 _ => h c h1
theorem prs_out {x : List Int} (P : Pkg h x) {c : Nat} (hc : h.bs.length ≤ c) : prs h.ps x c = [] := prs_none fun hm => by
  have := P.c _ hm; omega
theorem sa4 (G : HG h) {x : List Int} (P : Pkg h x) : sums 4 (fun c => slP h.ks h.fl (prs h.ps x c)) = h.sa x := sum4 G.nb fun c hc => by
  rw [prs_out P hc]; simp [slP]
theorem us4 (G : HG h) {x : List Int} (P : Pkg h x) : sums 4 (fun c => if (prs h.ps x c).length = 0 then 0 else 1) = h.us x := sum4 G.nb fun c hc => by
  rw [prs_out P hc]; simp
/-! the best packing -/
def bC (n : Nat) (f : List Int → Int) (D : List (List Int)) : List AV := match bsf f D with | none => List.replicate n (I 0) | some x => x.flatMap intL
def bL (f : List Int → Int) (D : List (List Int)) : Int := match bsf f D with | none => 9223372036854775807 | some x => f x
def As76 : ACode := .seq (.region 0 [oP 9 (.move (.t 21))]) (.region 0 [oQ 10 (.alloc [I 0, I 0, I 0, I 0, I 0, I 0, I 0, I 0, I 0, I 0, I 0, I 0, I 0, I 0, I 0, I 0]), ⟨none, .store 16 (.t 10) (.t 22), none, none, []⟩])
def Bd76 : ACode := .block 1 (.seq (.region 0 [oQ 23 (.load false 1 (.t 3)), oQ 24 (.load true 4 (.t 2)), oQ 25 (.load true 16 (.t 10)), oQ 26 (.callv true (.t 23) [.t 24, .t 25]), oP 11 (.move (.t 26))])
  (.seq (.region 0 [oP 27 (.move (.t 11)), oQ 28 (.load false 1 (.t 8)), oP 29 (.bin .lss (.t 27) (.t 28))])
  (.cond (.t 29) (.seq (.region 0 [oQ 30 (.load false 1 (.t 7)), oP 31 (.move (.t 9)), oQ 32 (.w (.cpy 1 (.t 30) (.t 31)))])
    (.region 0 [oP 33 (.move (.t 11)), ⟨none, .store 1 (.t 8) (.t 33), none, none, []⟩])) .skip)))
theorem cpy_all {lim n : Nat} {g : List AO} {q o : Nat} {F : List Int} {C : List AV} (L : Lq n g q F) (hF : F.length = n) (ho : g[o]? = some (.cells C false)) (hC : C.length = n) (hl : lim ≤ o) :
    ∃ v, wCpy lim g 1 (.ms 1 o 0 n) (.mr 1 q 0 F.length n) = some (v, g.set o (.cells (F.flatMap intL) false)) := by
  obtain ⟨c, h1, h2, h3⟩ := L
  have e : c = F.flatMap intL := by rw [← h3, List.take_of_length_le (by omega)]
  have fl : (F.flatMap intL).length = n := by rw [flat1]; exact hF
  have row : Am.rowOf g (.mr 1 q 0 F.length n) = some (F.flatMap intL) := by
    have tk : (F.flatMap intL).take (F.length * 1) = F.flatMap intL := List.take_of_length_le (by omega)
    simp only [Am.rowOf, Am.rowAt, h1, Option.bind_some, AO.row?, e, List.drop_zero, tk]
    rw [if_pos (by omega)]
  by_cases h0 : n = 0
  · have hF0 : F = [] := List.eq_nil_of_length_eq_zero (by omega)
    have hC0 : C = [] := List.eq_nil_of_length_eq_zero (by omega)
    refine ⟨.int .i64 0, (wCpy_no (n := F.length) (k := n) rfl rfl row (by omega) (by omega)).trans ?_⟩
    subst hF0 hC0
    rw [show (AO.cells (([] : List Int).flatMap intL) false) = AO.cells [] false from rfl, set_same ho]
  · refine ⟨.int .i64 F.length, (wCpy_ok (n := F.length) (k := n) (o := o) (off := 0) rfl rfl (by omega) (by omega) rfl row (by omega) ho (by omega) hl (flat_sc F)).trans ?_⟩
    have e3 : splice C 0 (F.flatMap intL) = F.flatMap intL := by
      simp only [splice, List.take_zero, List.nil_append, Nat.zero_add]
      rw [List.drop_of_length_le (by omega), List.append_nil]
    rw [e3]
set_option maxHeartbeats 8000000 in
theorem s76 (H : HsOk h k p b) (G : HG h) {K : Nat} {f : List Int → Int} (hf : ∀ x, Pkg h x → 0 ≤ f x ∧ f x ≤ 100000) (hK : ∀ x, Pkg h x → ∀ g, Ro E K [hsV h.fl k p b, .agg (lds h x)] g = some (I (f x))) (st : Bool) :
    Iso E 35 [hsV h.fl k p b, .fn K [] []] st = some (.tup [if h.pk = [] then .nils else slV 1 intL ((bsf f h.pk).getD []), I (if h.pk = [] then 0 else lsf f h.pk), I (if h.pk = [] then 3 else 0)]) := by
  have np := G.np
  have c98 := fun st => s98 H G st
  simp only [hsV] at c98 hK
  refine Iso_of (es _ _ _ _) e35 ?_
  simp only [f35, hsV]
  by_cases hpk : h.pk = []
  · have e : decide (h.pk ≠ []) = false := decide_eq_false fun hn => hn hpk
    rw [e] at c98
    rw [if_pos hpk, if_pos hpk, if_pos hpk]
    simp (disch := first | assumption | omega | (simp only [az]; done)) only [ru, eq_self, if_true, if_false, BEq.rfl, binI, AO.row?, splice, fillL, mmAll, loadV, storeV, zeros, Am.rowAt, Am.part, addOff, Nat.reduceAdd, Nat.reduceMul, Nat.reduceLeDiff, Nat.reduceSub, Nat.reduceLT, Int.reduceEq, Int.reduceLT, Int.reduceLE, Int.reduceGT, Int.reduceGE, Int.reduceAdd, Int.reduceSub, Int.reduceMul, Int.reduceNeg, Int.reduceToNat, reduceCtorEq, reduceIte, lenV_sl H.k, lenV_sl H.p, lenV_sl H.b, elem_kd H.k, elem_pr H.p, elem_in H.b, view_sl H.k, view_sl H.p, view_sl H.b, scalar_sl H.k, scalar_sl H.p, scalar_sl H.b, cells_sl H.k, cells_sl H.p, cells_sl H.b, pure_sl H.k, pure_sl H.p, pure_sl H.b, Int.toNat_natCast, c98, Bool.not_false, fin3]
    done
  have e : decide (h.pk ≠ []) = true := decide_eq_true hpk
  rw [e] at c98
  rw [if_neg hpk, if_neg hpk, if_neg hpk]
  have b0 : (0 : Int) ≤ h.ps.length := by omega
  have b8 : (8 : Int) * h.ps.length ≤ 140737488355328 := by omega
  simp (disch := first | assumption | omega | (simp only [az]; done)) only [ru, eq_self, if_true, if_false, BEq.rfl, binI, AO.row?, splice, fillL, mmAll, loadV, storeV, zeros, Am.rowAt, Am.part, addOff, Nat.reduceAdd, Nat.reduceMul, Nat.reduceLeDiff, Nat.reduceSub, Nat.reduceLT, Int.reduceEq, Int.reduceLT, Int.reduceLE, Int.reduceGT, Int.reduceGE, Int.reduceAdd, Int.reduceSub, Int.reduceMul, Int.reduceNeg, Int.reduceToNat, reduceCtorEq, reduceIte, lenV_sl H.k, lenV_sl H.p, lenV_sl H.b, elem_kd H.k, elem_pr H.p, elem_in H.b, view_sl H.k, view_sl H.p, view_sl H.b, scalar_sl H.k, scalar_sl H.p, scalar_sl H.b, cells_sl H.k, cells_sl H.p, cells_sl H.b, pure_sl H.k, pure_sl H.p, pure_sl H.b, Int.toNat_natCast, c98, exOp_makeF, b0, b8, flat_rep, Int.le_refl, Bool.not_true]
  obtain ⟨TS, hTS⟩ : ∃ TS : List AV, TS = [.agg [k, I h.fl, p, b], .fn K [] [], .ptr 0 0, .ptr 1 0, .nils, I 0, I 0, .ptr 3 0, .ptr 4 0, .undef, .undef, .undef, .agg [k, I h.fl, p, b], Bo true, Bo false, .ptr 0 2, p, I h.ps.length, .ms 1 2 0 h.ps.length, .agg [k, I h.fl, p, b], .fn 47 [.agg [k, I h.fl, p, b]] [], .undef, .undef, .undef, .undef, .undef, .undef, .undef, .undef, .undef, .undef, .undef, .undef, .undef, .undef, .undef] := ⟨_, rfl⟩
  obtain ⟨H1, hH1⟩ : ∃ H1 : List AO, H1 = [.cells [k, I h.fl, p, b] false, .cells [.fn K [] []] false, .cells (List.replicate h.ps.length (I 0)) false, .cells [.ms 1 2 0 h.ps.length] false, .cells [I 9223372036854775807] false, .dfr, .loop .ready none 35 TS [21, 22] As76 Bd76 5] := ⟨_, rfl⟩
  have key := r99 H G (o := 6) (lim := 0) (by omega) (Q := fun _ => False)
    (P := fun D g => (∀ x ∈ D, Pkg h x) ∧ g[0]? = some (.cells [k, I h.fl, p, b] false) ∧ g[1]? = some (.cells [.fn K [] []] false) ∧ g[2]? = some (.cells (bC h.ps.length f D) false) ∧ g[3]? = some (.cells [.ms 1 2 0 h.ps.length] false) ∧ g[4]? = some (.cells [I (bL f D)] false) ∧ g[5]? = some .dfr ∧ g[6]? = some (.loop .ready none 35 TS [21, 22] As76 Bd76 5))
    (by rintro D h h' ⟨z, a, b, c, d, e, f, g⟩ fr; exact ⟨z, fr.at (by omega) a, fr.at (by omega) b, fr.at (by omega) c, fr.at (by omega) d, fr.at (by omega) e, fr.at (by omega) f, fr.at (by omega) g⟩) ?_ (g := H1) (by rw [hH1]; simp) (by rw [hH1]; exact ⟨by simp, rfl, rfl, rfl, rfl, rfl, rfl, rfl⟩)
  · refine G_range_of rfl rfl ?_
    rw [← hTS]
    obtain ⟨r, h3, hr, ⟨gp, g0, g1, g2, g3, g4, g5, g6⟩ | hf⟩ := key
    case inr => exact hf.elim
    rw [hH1] at hr
    refine ⟨r, h3, .ready, none, 35, TS, [21, 22], As76, Bd76, 5, hr, g6, .inl rfl, ?_⟩
    simp only [Option.getD_none, GE_nrm]
    obtain ⟨h4, hh4⟩ : ∃ h4, h4 = h3.set (([.cells [k, I h.fl, p, b] false, .cells [.fn K [] []] false, .cells (List.replicate h.ps.length (I 0)) false, .cells [.ms 1 2 0 h.ps.length] false, .cells [I 9223372036854775807] false] : List AO).length + 1) (AO.loop .exhausted none 35 TS [21, 22] As76 Bd76 5) := ⟨_, rfl⟩
    rw [← hh4]
    obtain ⟨x, hx, hxm, _⟩ := bsf_some (f := f) hpk
    have xl := (gp x hxm).l
    have e1 : bC h.ps.length f h.pk = x.flatMap intL := by simp only [bC, hx]
    have e2 : bL f h.pk = f x := by simp only [bL, hx]
    have e3 : lsf f h.pk = f x := by simp only [lsf, hx]
    rw [e1] at g2
    rw [e2] at g4
    rw [hx, e3]
    have k2 : h4[2]? = some (.cells (x.flatMap intL) false) := by rw [hh4, List.getElem?_set_ne (by simp)]; exact g2
    have k3 : h4[3]? = some (.cells [.ms 1 2 0 h.ps.length] false) := by rw [hh4, List.getElem?_set_ne (by simp)]; exact g3
    have k4 : h4[4]? = some (.cells [I (f x)] false) := by rw [hh4, List.getElem?_set_ne (by simp)]; exact g4
    have k5 : h4[5]? = some .dfr := by rw [hh4, List.getElem?_set_ne (by simp)]; exact g5
    rw [hTS]
    simp (disch := first | assumption | omega | (simp only [az]; done)) only [ru, eq_self, if_true, if_false, BEq.rfl, binI, AO.row?, splice, fillL, mmAll, loadV, storeV, zeros, Am.rowAt, Am.part, addOff, Nat.reduceAdd, Nat.reduceMul, Nat.reduceLeDiff, Nat.reduceSub, Nat.reduceLT, Int.reduceEq, Int.reduceLT, Int.reduceLE, Int.reduceGT, Int.reduceGE, Int.reduceAdd, Int.reduceSub, Int.reduceMul, Int.reduceNeg, Int.reduceToNat, reduceCtorEq, reduceIte, k3, k4]
    refine finM (h' := h4.set 5 .tomb) (vs := [.ms 1 2 0 h.ps.length, I (f x), I 0]) (.inr rfl) (by simp) ?_ ?_ ?_
    · simp only [takeMarks, List.length_cons, List.length_nil, k5]
    · simp (disch := first | assumption | omega | (simp only [az]; done)) only [ru, eq_self, if_true, if_false, BEq.rfl, binI, AO.row?, splice, fillL, mmAll, loadV, storeV, zeros, Am.rowAt, Am.part, addOff, Nat.reduceAdd, Nat.reduceMul, Nat.reduceLeDiff, Nat.reduceSub, Nat.reduceLT, Int.reduceEq, Int.reduceLT, Int.reduceLE, Int.reduceGT, Int.reduceGE, Int.reduceAdd, Int.reduceSub, Int.reduceMul, Int.reduceNeg, Int.reduceToNat, reduceCtorEq, reduceIte, List.mapM_cons, List.mapM_nil, getRes, Option.bind_eq_bind, Option.pure_def, Option.bind_some]
    · have k2' : (h4.set 5 .tomb)[2]? = some (.cells (x.flatMap intL) false) := by rw [List.getElem?_set_ne (by omega)]; exact k2
      have vB := viewB (l := x) k2' (st := st) (n := 6)
      rw [xl] at vB
      simp only [view_tup, List.mapM_cons, List.mapM_nil, view_int, vB, Option.getD_some]; rfl
  · rintro q D F g hq L ⟨gp, g0, g1, g2, g3, g4, g5, g6⟩ hO
    have gp' : ∀ x ∈ D ++ [F], Pkg h x := fun x hx => by
      rcases List.mem_append.1 hx with hx | hx
      · exact gp x hx
      · rw [List.mem_singleton] at hx; rw [hx]; exact hO
    have := R_rnd_of (E := E) (lim := 0) (args := [.mr 1 q 0 F.length h.ps.length, .agg (lds h F)]) (P := fun r h' => r = Bo true ∧ (h'[0]? = some (.cells [k, I h.fl, p, b] false) ∧ h'[1]? = some (.cells [.fn K [] []] false) ∧ h'[2]? = some (.cells (bC h.ps.length f (D ++ [F])) false) ∧ h'[3]? = some (.cells [.ms 1 2 0 h.ps.length] false) ∧ h'[4]? = some (.cells [I (bL f (D ++ [F]))] false) ∧ h'[5]? = some .dfr ∧ h'[6]? = some (.loop .ready none 35 TS [21, 22] As76 Bd76 5)) ∧ Fk 7 g h') g6 rfl (Nat.zero_le _) ?_
    · obtain ⟨r, h', hr, rfl, hp, fk⟩ := this
      exact ⟨true, h', hr, .inl ⟨rfl, ⟨gp', hp⟩, fk⟩⟩
    have cK := hK F hO
    have fb := hf F hO
    have ll := lds_len (h := h) (x := F)
    have iv := lds_iv (h := h) (x := F)
    have bCl : (bC h.ps.length f D).length = h.ps.length := by
      unfold bC
      cases hb : bsf f D with
      | none => simp
      | some x =>
        have hD : D ≠ [] := by rintro rfl; cases hb
        obtain ⟨y, hy, hm, _⟩ := bsf_some (f := f) hD
        rw [hb] at hy
        obtain rfl := Option.some.inj hy
        simp only
        rw [flat1]; exact (gp _ hm).l
    have bw : bC h.ps.length f (D ++ [F]) = (if f F < bL f D then F.flatMap intL else bC h.ps.length f D) ∧ bL f (D ++ [F]) = (if f F < bL f D then f F else bL f D) := by
      unfold bC bL
      rw [bsf_snoc]
      cases hb : bsf f D with
      | none => simp only; rw [if_pos (by omega), if_pos (by omega)]; exact ⟨rfl, rfl⟩
      | some x => simp only; split <;> exact ⟨rfl, rfl⟩
    obtain ⟨Z, hZ⟩ : ∃ Z, Z = lds h F := ⟨_, rfl⟩
    rw [← hZ] at ll iv cK ⊢
    have tk : Z.take 16 = Z := List.take_of_length_le (by omega)
    rw [hTS]
    simp only [setAll, List.set_cons_succ, List.set_cons_zero]
    rw [← hTS]
    unfold As76
    simp (disch := first | assumption | omega | (simp only [az]; done)) only [ru, eq_self, if_true, if_false, BEq.rfl, binI, AO.row?, splice, fillL, mmAll, loadV, storeV, zeros, Am.rowAt, Am.part, addOff, Nat.reduceAdd, Nat.reduceMul, Nat.reduceLeDiff, Nat.reduceSub, Nat.reduceLT, Int.reduceEq, Int.reduceLT, Int.reduceLE, Int.reduceGT, Int.reduceGE, Int.reduceAdd, Int.reduceSub, Int.reduceMul, Int.reduceNeg, Int.reduceToNat, reduceCtorEq, reduceIte, rmr, ll, tk, iv_sc iv, atE, setE]
    have ho : 6 < g.length := (List.getElem?_eq_some_iff.1 g6).1
    refine ⟨none, 35, TS, [21, 22], As76, Bd76, 5, by rw [at_ap ho]; exact g6, ?_⟩
    obtain ⟨h6, hh6⟩ : ∃ h6, h6 = (g ++ [AO.cells Z false]).set 6 (AO.loop .busy none 35 TS [21, 22] As76 Bd76 5) := ⟨_, rfl⟩
    rw [← hh6]
    have n0 : h6[0]? = some (.cells [k, I h.fl, p, b] false) := by rw [hh6, List.getElem?_set_ne (by omega), at_ap (by omega)]; exact g0
    have n1 : h6[1]? = some (.cells [.fn K [] []] false) := by rw [hh6, List.getElem?_set_ne (by omega), at_ap (by omega)]; exact g1
    have n2 : h6[2]? = some (.cells (bC h.ps.length f D) false) := by rw [hh6, List.getElem?_set_ne (by omega), at_ap (by omega)]; exact g2
    have n3 : h6[3]? = some (.cells [.ms 1 2 0 h.ps.length] false) := by rw [hh6, List.getElem?_set_ne (by omega), at_ap (by omega)]; exact g3
    have n4 : h6[4]? = some (.cells [I (bL f D)] false) := by rw [hh6, List.getElem?_set_ne (by omega), at_ap (by omega)]; exact g4
    have n5 : h6[5]? = some .dfr := by rw [hh6, List.getElem?_set_ne (by omega), at_ap (by omega)]; exact g5
    have n6 : h6[6]? = some (AO.loop .busy none 35 TS [21, 22] As76 Bd76 5) := by rw [hh6, List.getElem?_set_self (by simp; omega)]
    have nz : h6[g.length]? = some (.cells Z false) := by rw [hh6, List.getElem?_set_ne (by omega)]; exact atE
    have l6 : h6.length = g.length + 1 := by rw [hh6]; simp
    have L6 : Lq h.ps.length h6 q F := by
      obtain ⟨C, c1, c2, c3⟩ := L
      have cl := (List.getElem?_eq_some_iff.1 c1).1
      exact ⟨C, by rw [hh6, List.getElem?_set_ne (by omega), at_ap cl]; exact c1, c2, c3⟩
    have old : ∀ j, 7 ≤ j → j < g.length → h6[j]? = g[j]? := fun j hj hl => by rw [hh6, List.getElem?_set_ne (by omega), at_ap hl]
    rw [bw.1, bw.2]
    unfold Bd76
    by_cases hlt : f F < bL f D
    · rw [if_pos hlt, if_pos hlt]
      obtain ⟨v, hv⟩ := cpy_all (lim := 0) L6 hO.l n2 bCl (Nat.zero_le _)
      have m4 : (h6.set 2 (AO.cells (F.flatMap intL) false))[4]? = some (.cells [I (bL f D)] false) := by rw [List.getElem?_set_ne (by omega)]; exact n4
      simp (disch := first | assumption | omega | (simp only [az]; done)) only [ru, eq_self, if_true, if_false, BEq.rfl, binI, AO.row?, splice, fillL, mmAll, loadV, storeV, zeros, Am.rowAt, Am.part, addOff, Nat.reduceAdd, Nat.reduceMul, Nat.reduceLeDiff, Nat.reduceSub, Nat.reduceLT, Int.reduceEq, Int.reduceLT, Int.reduceLE, Int.reduceGT, Int.reduceGE, Int.reduceAdd, Int.reduceSub, Int.reduceMul, Int.reduceNeg, Int.reduceToNat, reduceCtorEq, reduceIte, rmr, ll, tk, iv_sc iv, iv_view iv, iv_pure iv, exOp_callv1, List.nil_append, List.append_nil, n0, n1, n3, n4, nz, cK, hlt, decide_true, hv, m4]
      refine ⟨.busy, none, 35, TS, [21, 22], As76, Bd76, 5, by rw [List.getElem?_set_ne (by omega), List.getElem?_set_ne (by omega)]; exact n6, ?_⟩
      refine ⟨⟨?_, ?_, ?_, ?_, ?_, ?_, ?_⟩, ⟨by simp [l6], fun j hj hl => ?_⟩⟩
      · rw [List.getElem?_set_ne (by omega), List.getElem?_set_ne (by omega), List.getElem?_set_ne (by omega)]; exact n0
      · rw [List.getElem?_set_ne (by omega), List.getElem?_set_ne (by omega), List.getElem?_set_ne (by omega)]; exact n1
      · rw [List.getElem?_set_ne (by omega), List.getElem?_set_ne (by omega), List.getElem?_set_self (by rw [l6]; omega)]
      · rw [List.getElem?_set_ne (by omega), List.getElem?_set_ne (by omega), List.getElem?_set_ne (by omega)]; exact n3
      · rw [List.getElem?_set_ne (by omega), List.getElem?_set_self (by simp; omega)]
      · rw [List.getElem?_set_ne (by omega), List.getElem?_set_ne (by omega), List.getElem?_set_ne (by omega)]; exact n5
      · rw [List.getElem?_set_self (by simp; omega)]; rfl
      · rw [List.getElem?_set_ne (by omega), List.getElem?_set_ne (by omega), List.getElem?_set_ne (by omega)]; exact old j hj hl
    · rw [if_neg hlt, if_neg hlt]
      simp (disch := first | assumption | omega | (simp only [az]; done)) only [ru, eq_self, if_true, if_false, BEq.rfl, binI, AO.row?, splice, fillL, mmAll, loadV, storeV, zeros, Am.rowAt, Am.part, addOff, Nat.reduceAdd, Nat.reduceMul, Nat.reduceLeDiff, Nat.reduceSub, Nat.reduceLT, Int.reduceEq, Int.reduceLT, Int.reduceLE, Int.reduceGT, Int.reduceGE, Int.reduceAdd, Int.reduceSub, Int.reduceMul, Int.reduceNeg, Int.reduceToNat, reduceCtorEq, reduceIte, rmr, ll, tk, iv_sc iv, iv_view iv, iv_pure iv, exOp_callv1, List.nil_append, List.append_nil, n0, n1, n3, n4, nz, cK, hlt, decide_false]
      refine ⟨.busy, none, 35, TS, [21, 22], As76, Bd76, 5, n6, ?_⟩
      refine ⟨⟨?_, ?_, ?_, ?_, ?_, ?_, ?_⟩, ⟨by simp [l6], fun j hj hl => ?_⟩⟩
      · rw [List.getElem?_set_ne (by omega)]; exact n0
      · rw [List.getElem?_set_ne (by omega)]; exact n1
      · rw [List.getElem?_set_ne (by omega)]; exact n2
      · rw [List.getElem?_set_ne (by omega)]; exact n3
      · rw [List.getElem?_set_ne (by omega)]; exact n4
      · rw [List.getElem?_set_ne (by omega)]; exact n5
      · rw [List.getElem?_set_self (by omega)]; rfl
      · rw [List.getElem?_set_ne (by omega)]; exact old j hj hl
end
end Go.Proofs.Ytaffjmjahenoaaa.A

/-
The program: all barrels of which something is so in some packing.
-/
namespace Go.Proofs.Ytaffjmjahenoaaa.A
open Go Go.Am Go.Proofs.Ytaffjmjahenoaaa.T
set_option maxRecDepth 100000
set_option linter.unusedSimpArgs false
set_option linter.unusedVariables false

/-- four marks -/
def m4 (F : Nat → Bool) : List AV := (List.range 4).map fun i => Bo (F i)
section
variable {h : Hs} {k p b : AV}
end
end Go.Proofs.Ytaffjmjahenoaaa.A

/-
The program: Least, Pack, Fewest, Where, Early, Spare.
-/
namespace Go.Proofs.Ytaffjmjahenoaaa.A
open Go Go.Am Go.Proofs.Ytaffjmjahenoaaa.T
set_option maxRecDepth 100000
set_option linter.unusedSimpArgs false
set_option linter.unusedVariables false

section
variable {h : Hs} {k p b : AV}
theorem Lq.all {n : Nat} {g : List AO} {q : Nat} {F : List Int} (L : Lq n g q F) (hF : F.length = n) : g[q]? = some (.cells (F.flatMap intL) false) := by
  obtain ⟨C, h1, h2, h3⟩ := L
  rw [h1, ← h3, List.take_of_length_le (by omega)]
theorem s76a (H : HsOk h k p b) (G : HG h) (st : Bool) : Iso E 35 [.agg [k, I h.fl, p, b], .fn 36 [] []] st = some (.tup [if h.pk = [] then .nils else slV 1 intL ((bsf h.sa h.pk).getD []), I (if h.pk = [] then 0 else lsf h.sa h.pk), I (if h.pk = [] then 3 else 0)]) :=
  s76 H G (fun x _ => by have := sa_bd G x; omega) (fun x P g => by rw [q77 H G x g, sa4 G P]) st
theorem s76u (H : HsOk h k p b) (G : HG h) (st : Bool) : Iso E 35 [.agg [k, I h.fl, p, b], .fn 43 [] []] st = some (.tup [if h.pk = [] then .nils else slV 1 intL ((bsf h.us h.pk).getD []), I (if h.pk = [] then 0 else lsf h.us h.pk), I (if h.pk = [] then 3 else 0)]) :=
  s76 H G (fun x _ => by have := us_bd (h := h) x; have := G.nb; omega) (fun x P g => by rw [q79 H G x g, us4 G P]) st
theorem s30 (H : HsOk h k p b) (st : Bool) : Iso E 25 [hsV h.fl k p b] st = some (ansN (askE h.valid true h.pk) (lsf h.sa h.pk)) := by
  have a1 := fun st => s19 H st
  simp only [hsV] at a1
  refine Iso_of (es _ _ _ _) e25 ?_
  simp only [f25, hsV, ansN, askE]
  cases hv : h.valid
  · simp (disch := first | assumption | omega | (simp only [az]; done)) only [ru, eq_self, if_true, if_false, BEq.rfl, binI, AO.row?, splice, fillL, mmAll, loadV, storeV, zeros, Am.rowAt, Am.part, addOff, Nat.reduceAdd, Nat.reduceMul, Nat.reduceLeDiff, Nat.reduceSub, Nat.reduceLT, Int.reduceEq, Int.reduceLT, Int.reduceLE, Int.reduceGT, Int.reduceGE, Int.reduceAdd, Int.reduceSub, Int.reduceMul, Int.reduceNeg, Int.reduceToNat, reduceCtorEq, reduceIte, lenV_sl H.k, lenV_sl H.p, lenV_sl H.b, elem_kd H.k, elem_pr H.p, elem_in H.b, view_sl H.k, view_sl H.p, view_sl H.b, scalar_sl H.k, scalar_sl H.p, scalar_sl H.b, cells_sl H.k, cells_sl H.p, cells_sl H.b, pure_sl H.k, pure_sl H.p, pure_sl H.b, Int.toNat_natCast, a1, hv, vE, if_false, Bool.false_eq_true]
  have G : HG h := valid_iff.1 hv
  have a2 := fun st => s76a H G st
  by_cases hpk : h.pk = []
  · simp only [hpk, if_true] at a2
    simp (disch := first | assumption | omega | (simp only [az]; done)) only [ru, eq_self, if_true, if_false, BEq.rfl, binI, AO.row?, splice, fillL, mmAll, loadV, storeV, zeros, Am.rowAt, Am.part, addOff, Nat.reduceAdd, Nat.reduceMul, Nat.reduceLeDiff, Nat.reduceSub, Nat.reduceLT, Int.reduceEq, Int.reduceLT, Int.reduceLE, Int.reduceGT, Int.reduceGE, Int.reduceAdd, Int.reduceSub, Int.reduceMul, Int.reduceNeg, Int.reduceToNat, reduceCtorEq, reduceIte, lenV_sl H.k, lenV_sl H.p, lenV_sl H.b, elem_kd H.k, elem_pr H.p, elem_in H.b, view_sl H.k, view_sl H.p, view_sl H.b, scalar_sl H.k, scalar_sl H.p, scalar_sl H.b, cells_sl H.k, cells_sl H.p, cells_sl H.b, pure_sl H.k, pure_sl H.p, pure_sl H.b, Int.toNat_natCast, a1, a2, hv, hpk, vE, if_true]
  · simp only [hpk, if_false] at a2
    simp (disch := first | assumption | omega | (simp only [az]; done)) only [ru, eq_self, if_true, if_false, BEq.rfl, binI, AO.row?, splice, fillL, mmAll, loadV, storeV, zeros, Am.rowAt, Am.part, addOff, Nat.reduceAdd, Nat.reduceMul, Nat.reduceLeDiff, Nat.reduceSub, Nat.reduceLT, Int.reduceEq, Int.reduceLT, Int.reduceLE, Int.reduceGT, Int.reduceGE, Int.reduceAdd, Int.reduceSub, Int.reduceMul, Int.reduceNeg, Int.reduceToNat, reduceCtorEq, reduceIte, lenV_sl H.k, lenV_sl H.p, lenV_sl H.b, elem_kd H.k, elem_pr H.p, elem_in H.b, view_sl H.k, view_sl H.p, view_sl H.b, scalar_sl H.k, scalar_sl H.p, scalar_sl H.b, cells_sl H.k, cells_sl H.p, cells_sl H.b, pure_sl H.k, pure_sl H.p, pure_sl H.b, Int.toNat_natCast, a1, a2, hv, hpk, vE, if_true, if_false]
theorem s32 (H : HsOk h k p b) : Iso E 20 [hsV h.fl k p b] false = some (.tup [if askE h.valid true h.pk = 0 then slV 1 intL ((bsf h.sa h.pk).getD []) else .nils, I (askE h.valid true h.pk)]) := by
  have a1 := fun st => s19 H st
  simp only [hsV] at a1
  refine Iso_of (es _ _ _ _) e20 ?_
  simp only [f20, hsV, ansN, askE]
  cases hv : h.valid
  · simp (disch := first | assumption | omega | (simp only [az]; done)) only [ru, eq_self, if_true, if_false, BEq.rfl, binI, AO.row?, splice, fillL, mmAll, loadV, storeV, zeros, Am.rowAt, Am.part, addOff, Nat.reduceAdd, Nat.reduceMul, Nat.reduceLeDiff, Nat.reduceSub, Nat.reduceLT, Int.reduceEq, Int.reduceLT, Int.reduceLE, Int.reduceGT, Int.reduceGE, Int.reduceAdd, Int.reduceSub, Int.reduceMul, Int.reduceNeg, Int.reduceToNat, reduceCtorEq, reduceIte, lenV_sl H.k, lenV_sl H.p, lenV_sl H.b, elem_kd H.k, elem_pr H.p, elem_in H.b, view_sl H.k, view_sl H.p, view_sl H.b, scalar_sl H.k, scalar_sl H.p, scalar_sl H.b, cells_sl H.k, cells_sl H.p, cells_sl H.b, pure_sl H.k, pure_sl H.p, pure_sl H.b, Int.toNat_natCast, a1, hv, vE, if_false, Bool.false_eq_true]
  have G : HG h := valid_iff.1 hv
  have a2 := fun st => s76a H G st
  by_cases hpk : h.pk = []
  · simp only [hpk, if_true] at a2
    simp (disch := first | assumption | omega | (simp only [az]; done)) only [ru, eq_self, if_true, if_false, BEq.rfl, binI, AO.row?, splice, fillL, mmAll, loadV, storeV, zeros, Am.rowAt, Am.part, addOff, Nat.reduceAdd, Nat.reduceMul, Nat.reduceLeDiff, Nat.reduceSub, Nat.reduceLT, Int.reduceEq, Int.reduceLT, Int.reduceLE, Int.reduceGT, Int.reduceGE, Int.reduceAdd, Int.reduceSub, Int.reduceMul, Int.reduceNeg, Int.reduceToNat, reduceCtorEq, reduceIte, lenV_sl H.k, lenV_sl H.p, lenV_sl H.b, elem_kd H.k, elem_pr H.p, elem_in H.b, view_sl H.k, view_sl H.p, view_sl H.b, scalar_sl H.k, scalar_sl H.p, scalar_sl H.b, cells_sl H.k, cells_sl H.p, cells_sl H.b, pure_sl H.k, pure_sl H.p, pure_sl H.b, Int.toNat_natCast, a1, a2, hv, hpk, vE, if_true]
  · simp only [hpk, if_false, slV] at a2
    simp (disch := first | assumption | omega | (simp only [az]; done)) only [ru, eq_self, if_true, if_false, BEq.rfl, binI, AO.row?, splice, fillL, mmAll, loadV, storeV, zeros, Am.rowAt, Am.part, addOff, Nat.reduceAdd, Nat.reduceMul, Nat.reduceLeDiff, Nat.reduceSub, Nat.reduceLT, Int.reduceEq, Int.reduceLT, Int.reduceLE, Int.reduceGT, Int.reduceGE, Int.reduceAdd, Int.reduceSub, Int.reduceMul, Int.reduceNeg, Int.reduceToNat, reduceCtorEq, reduceIte, lenV_sl H.k, lenV_sl H.p, lenV_sl H.b, elem_kd H.k, elem_pr H.p, elem_in H.b, view_sl H.k, view_sl H.p, view_sl H.b, scalar_sl H.k, scalar_sl H.p, scalar_sl H.b, cells_sl H.k, cells_sl H.p, cells_sl H.b, pure_sl H.k, pure_sl H.p, pure_sl H.b, Int.toNat_natCast, a1, a2, hv, hpk, vE, slV, if_true, if_false]
theorem s34 (H : HsOk h k p b) (st : Bool) : Iso E 26 [hsV h.fl k p b] st = some (ansN (askE h.valid true h.pk) (lsf h.us h.pk)) := by
  have a1 := fun st => s19 H st
  simp only [hsV] at a1
  refine Iso_of (es _ _ _ _) e26 ?_
  simp only [f26, hsV, ansN, askE]
  cases hv : h.valid
  · simp (disch := first | assumption | omega | (simp only [az]; done)) only [ru, eq_self, if_true, if_false, BEq.rfl, binI, AO.row?, splice, fillL, mmAll, loadV, storeV, zeros, Am.rowAt, Am.part, addOff, Nat.reduceAdd, Nat.reduceMul, Nat.reduceLeDiff, Nat.reduceSub, Nat.reduceLT, Int.reduceEq, Int.reduceLT, Int.reduceLE, Int.reduceGT, Int.reduceGE, Int.reduceAdd, Int.reduceSub, Int.reduceMul, Int.reduceNeg, Int.reduceToNat, reduceCtorEq, reduceIte, lenV_sl H.k, lenV_sl H.p, lenV_sl H.b, elem_kd H.k, elem_pr H.p, elem_in H.b, view_sl H.k, view_sl H.p, view_sl H.b, scalar_sl H.k, scalar_sl H.p, scalar_sl H.b, cells_sl H.k, cells_sl H.p, cells_sl H.b, pure_sl H.k, pure_sl H.p, pure_sl H.b, Int.toNat_natCast, a1, hv, vE, if_false, Bool.false_eq_true]
  have G : HG h := valid_iff.1 hv
  have a2 := fun st => s76u H G st
  by_cases hpk : h.pk = []
  · simp only [hpk, if_true] at a2
    simp (disch := first | assumption | omega | (simp only [az]; done)) only [ru, eq_self, if_true, if_false, BEq.rfl, binI, AO.row?, splice, fillL, mmAll, loadV, storeV, zeros, Am.rowAt, Am.part, addOff, Nat.reduceAdd, Nat.reduceMul, Nat.reduceLeDiff, Nat.reduceSub, Nat.reduceLT, Int.reduceEq, Int.reduceLT, Int.reduceLE, Int.reduceGT, Int.reduceGE, Int.reduceAdd, Int.reduceSub, Int.reduceMul, Int.reduceNeg, Int.reduceToNat, reduceCtorEq, reduceIte, lenV_sl H.k, lenV_sl H.p, lenV_sl H.b, elem_kd H.k, elem_pr H.p, elem_in H.b, view_sl H.k, view_sl H.p, view_sl H.b, scalar_sl H.k, scalar_sl H.p, scalar_sl H.b, cells_sl H.k, cells_sl H.p, cells_sl H.b, pure_sl H.k, pure_sl H.p, pure_sl H.b, Int.toNat_natCast, a1, a2, hv, hpk, vE, if_true]
  · simp only [hpk, if_false] at a2
    simp (disch := first | assumption | omega | (simp only [az]; done)) only [ru, eq_self, if_true, if_false, BEq.rfl, binI, AO.row?, splice, fillL, mmAll, loadV, storeV, zeros, Am.rowAt, Am.part, addOff, Nat.reduceAdd, Nat.reduceMul, Nat.reduceLeDiff, Nat.reduceSub, Nat.reduceLT, Int.reduceEq, Int.reduceLT, Int.reduceLE, Int.reduceGT, Int.reduceGE, Int.reduceAdd, Int.reduceSub, Int.reduceMul, Int.reduceNeg, Int.reduceToNat, reduceCtorEq, reduceIte, lenV_sl H.k, lenV_sl H.p, lenV_sl H.b, elem_kd H.k, elem_pr H.p, elem_in H.b, view_sl H.k, view_sl H.p, view_sl H.b, scalar_sl H.k, scalar_sl H.p, scalar_sl H.b, cells_sl H.k, cells_sl H.p, cells_sl H.b, pure_sl H.k, pure_sl H.p, pure_sl H.b, Int.toNat_natCast, a1, a2, hv, hpk, vE, if_true, if_false]
end
end Go.Proofs.Ytaffjmjahenoaaa.A

/-
Choices of parts: by masks, and by lists in which parts are left out.
-/
namespace Go.Proofs.Ytaffjmjahenoaaa.A
open Go Go.Am Go.Proofs.Ytaffjmjahenoaaa.T
set_option maxRecDepth 100000
set_option linter.unusedSimpArgs false
set_option linter.unusedVariables false

/-- what a mask chooses -/
def selR : List Pr → Nat → List Pr
  | [], _ => []
  | q :: l, m => if m % 2 = 1 then q :: selR l (m / 2) else selR l (m / 2)
section
variable {h : Hs}
/-- the house with a choice of its parts -/
def Hs.sub (h : Hs) (m : Nat) : Hs := { h with ps := selR h.ps m }
end
end Go.Proofs.Ytaffjmjahenoaaa.A

/-
The program: choices of parts, stock.
-/
namespace Go.Proofs.Ytaffjmjahenoaaa.A
open Go Go.Am Go.Proofs.Ytaffjmjahenoaaa.T
set_option maxRecDepth 100000
set_option linter.unusedSimpArgs false
set_option linter.unusedVariables false

section
variable {h : Hs} {k p b : AV}
end
end Go.Proofs.Ytaffjmjahenoaaa.A

/-
The program: one more barrel, Buy.
-/
namespace Go.Proofs.Ytaffjmjahenoaaa.A
open Go Go.Am Go.Proofs.Ytaffjmjahenoaaa.T
set_option maxRecDepth 100000
set_option linter.unusedSimpArgs false
set_option linter.unusedVariables false

theorem c113 {l : List Int} {v : AV} (V : IsSl 1 intL l v) (hl : l.length ≤ 1000) (H : List AO) : ∃ z o H', C2 E 73 [v] H = some (z, H') ∧ Fr H H' ∧ ((z = .nils ∧ l = []) ∨ (z = .ms 1 o 0 l.length ∧ H.length ≤ o ∧ H'[o]? = some (.cells (l.flatMap intL) false))) := by
  rcases V with rfl | ⟨rfl, rfl⟩
  · obtain ⟨o, h', A, fr, ho, hc⟩ := cpyO (eb := 8) (lim := 0) (h := ([] : List AO)) (slV_is (esz := 1) (enc := intL) (l := l)) intE intSc (by omega) (by omega) (Nat.zero_le _)
    simp only [slV, apN, len0, List.nil_append, List.length_nil] at A
    have hr : ∃ r h1, R E (.fn 73) [.cs 1 l.length (l.flatMap intL)] [] 0 = some (r, h1) ∧ (r = .ms 1 o 0 l.length ∧ h1 = h') := by
      refine R_of (fun r h1 => r = .ms 1 o 0 l.length ∧ h1 = h') (es _ _ _ _) e73 ?_
      simp only [f73]
      simp (disch := first | assumption | omega | (simp only [az]; done)) only [ru, eq_self, if_true, if_false, BEq.rfl, binI, AO.row?, splice, fillL, mmAll, loadV, storeV, zeros, Am.rowAt, Am.part, addOff, Nat.reduceAdd, Nat.reduceMul, Nat.reduceLeDiff, Nat.reduceSub, Nat.reduceLT, Int.reduceEq, Int.reduceLT, Int.reduceLE, Int.reduceGT, Int.reduceGE, Int.reduceAdd, Int.reduceSub, Int.reduceMul, Int.reduceNeg, Int.reduceToNat, reduceCtorEq, reduceIte, pex_isNil, A]
    obtain ⟨_, _, hr, rfl, rfl⟩ := hr
    refine ⟨_, o + H.length, _, C2_of (by rfl) hr, Fr.app _ _, .inr ⟨rfl, by omega, ?_⟩⟩
    rw [List.getElem?_append_right (by omega), Nat.add_sub_cancel, List.getElem?_map, hc]
    simp only [Option.map_some, AO.shift, ints_shift]
  · have hr : ∃ r h1, R E (.fn 73) [.nils] [] 0 = some (r, h1) ∧ (r = .nils ∧ h1 = []) := by
      refine R_of (fun r h1 => r = .nils ∧ h1 = []) (es _ _ _ _) e73 ?_
      simp only [f73]
      simp (disch := first | assumption | omega | (simp only [az]; done)) only [ru, eq_self, if_true, if_false, BEq.rfl, binI, AO.row?, splice, fillL, mmAll, loadV, storeV, zeros, Am.rowAt, Am.part, addOff, Nat.reduceAdd, Nat.reduceMul, Nat.reduceLeDiff, Nat.reduceSub, Nat.reduceLT, Int.reduceEq, Int.reduceLT, Int.reduceLE, Int.reduceGT, Int.reduceGE, Int.reduceAdd, Int.reduceSub, Int.reduceMul, Int.reduceNeg, Int.reduceToNat, reduceCtorEq, reduceIte, pex_isNil]
    obtain ⟨_, _, hr, rfl, rfl⟩ := hr
    exact ⟨_, 0, _, C2_of (by rfl) hr, Fr.app _ _, .inl ⟨rfl, rfl⟩⟩
theorem ap113 {l : List Int} {z : AV} {o : Nat} {H : List AO} (h2 : 2 ≤ H.length) (hl : l.length ≤ 1000) (Z : (z = .nils ∧ l = []) ∨ (z = .ms 1 o 0 l.length ∧ 2 ≤ o ∧ H[o]? = some (.cells (l.flatMap intL) false))) (s : Int) :
    ∃ o2 H', appV 0 H 1 8 z (.cs 1 1 [I s]) = some (.ms 1 o2 0 (l.length + 1), H') ∧ 2 ≤ o2 ∧ H'[0]? = H[0]? ∧ H'[1]? = H[1]? ∧ H'[o2]? = some (.cells ((l ++ [s]).flatMap intL) false) := by
  rcases Z with ⟨rfl, rfl⟩ | ⟨rfl, ho, hc⟩
  · have A := appV_nil (lim := 0) (h := H) (esz := 1) (eb := 8) (n := 1) (x := .cs 1 1 [I s]) (xs := [I s]) rfl rfl rfl rfl (by omega) (by omega)
    rw [if_neg (by omega)] at A
    exact ⟨_, _, A, by omega, at_ap (by omega), at_ap (by omega), atE⟩
  · have A := appV_ms (lim := 0) (esz := 1) (eb := 8) (n := 1) (x := .cs 1 1 [I s]) (xs := [I s]) hc (by rw [flat_len intE]) rfl rfl rfl rfl (by omega) (by omega) (Nat.zero_le _)
    rw [if_neg (by omega)] at A
    have ll : H.length = (H.set o .tomb).length := by simp
    refine ⟨_, _, A, by omega, ?_, ?_, ?_⟩
    · rw [at_ap (by simp; omega), List.getElem?_set_ne (by omega)]
    · rw [at_ap (by simp; omega), List.getElem?_set_ne (by omega)]
    · rw [ll, atE, List.flatMap_append]; rfl
section
variable {h : Hs} {k p b : AV}
set_option maxHeartbeats 4000000 in
theorem s103 (H : HsOk h k p b) (s : Int) : Iso E 59 [hsV h.fl k p b, I s] false = some (hsV h.fl k p (slV 1 intL (h.bs ++ [s]))) := by
  have nb := H.nb
  obtain ⟨z, o, H1, C, fr, hz⟩ := c113 H.b (by omega) [.cells [k, I h.fl, p, b] false, .cells [.nils, I 0, .nils, .nils] false]
  simp only [List.length_cons, List.length_nil, Nat.zero_add, Nat.reduceAdd] at hz
  have a0 := fr.at (j := 0) rfl
  have a1 := fr.at (j := 1) rfl
  have l1 := (List.getElem?_eq_some_iff.1 a1).1
  obtain ⟨o2, H2, A, ho2, b0, b1, bo⟩ := ap113 (by omega) (by omega) hz s
  rw [a0] at b0
  rw [a1] at b1
  have l2 := (List.getElem?_eq_some_iff.1 b1).1
  obtain ⟨H3, e3⟩ : ∃ H3, H3 = H2.set 0 (.cells [k, I h.fl, p, .ms 1 o2 0 (h.bs.length + 1)] false) := ⟨_, rfl⟩
  have d0 : H3[0]? = some (.cells [k, I h.fl, p, .ms 1 o2 0 (h.bs.length + 1)] false) := by rw [e3]; exact set_at b0
  have d1 : H3[1]? = some (.cells [.nils, I 0, .nils, .nils] false) := by rw [e3]; exact set_of b1 (by omega)
  have do_ : H3[o2]? = some (.cells ((h.bs ++ [s]).flatMap intL) false) := by rw [e3]; exact set_of bo (by omega)
  obtain ⟨H4, e4⟩ : ∃ H4, H4 = H3.set 1 (.cells [k, I h.fl, p, .ms 1 o2 0 (h.bs.length + 1)] false) := ⟨_, rfl⟩
  have f1 : H4[1]? = some (.cells [k, I h.fl, p, .ms 1 o2 0 (h.bs.length + 1)] false) := by rw [e4]; exact set_at d1
  have fo : H4[o2]? = some (.cells ((h.bs ++ [s]).flatMap intL) false) := by rw [e4]; exact set_of do_ (by omega)
  have vB := fun n => viewB (l := h.bs ++ [s]) fo (st := false) (n := n)
  rw [List.length_append, List.length_singleton] at vB
  have c2 : ∀ {lim : Nat} {pl : Option Nat} {ρ : Opd → AV} {h : List AO} {f : Nat} {args : List Opd}, exOp (R E) lim pl ρ h (.call 2 f args) = C2 E f (args.map ρ) h := exOp_call2
  refine Iso_of (es _ _ _ _) e59 ?_
  simp only [f59, hsV]
  simp (disch := first | assumption | omega | (simp only [az]; done)) only [ru, eq_self, if_true, if_false, BEq.rfl, binI, AO.row?, splice, fillL, mmAll, loadV, storeV, zeros, Am.rowAt, Am.part, addOff, Nat.reduceAdd, Nat.reduceMul, Nat.reduceLeDiff, Nat.reduceSub, Nat.reduceLT, Int.reduceEq, Int.reduceLT, Int.reduceLE, Int.reduceGT, Int.reduceGE, Int.reduceAdd, Int.reduceSub, Int.reduceMul, Int.reduceNeg, Int.reduceToNat, reduceCtorEq, reduceIte, lenV_sl H.k, lenV_sl H.p, lenV_sl H.b, elem_kd H.k, elem_pr H.p, elem_in H.b, view_sl H.k, view_sl H.p, view_sl H.b, scalar_sl H.k, scalar_sl H.p, scalar_sl H.b, cells_sl H.k, cells_sl H.p, cells_sl H.b, pure_sl H.k, pure_sl H.p, pure_sl H.b, Int.toNat_natCast, c2, C, exOp_append, A, a0, a1, b0, b1, ← e3, d0, d1, ← e4, f1, finC, getRes, Option.some.injEq, exists_eq_left', vB]
theorem more_mem (G : HG h) (hb : h.bs.length < 4) {s : Int} (hs : 0 ≤ s ∧ s ≤ 99) {x : List Int} : x ∈ (h.more s).pk ↔ x ∈ (h.more 99).pk ∧ ndP h.ks h.fl (prs h.ps x h.bs.length) ≤ s := by
  rw [(more_G G hb hs).mem_pk, (more_G G hb (s := 99) (by omega)).mem_pk]
  have key : ∀ t : Int, (h.more t).ft x = true ↔ (∀ c : Nat, c < h.bs.length → ndP h.ks h.fl (prs h.ps x c) ≤ h.bs.getD c 0) ∧ ndP h.ks h.fl (prs h.ps x h.bs.length) ≤ t := fun t => by
    rw [Hs.ft_iff]
    have el : (h.more t).bs.length = h.bs.length + 1 := by simp [Hs.more]
    have e1 : ∀ c, c < h.bs.length → (h.more t).bs.getD c 0 = h.bs.getD c 0 := fun c hc => by
      show (h.bs ++ [t]).getD c 0 = _
      rw [List.getD_eq_getElem?_getD, List.getElem?_append_left hc, List.getD_eq_getElem?_getD]
    have e2 : (h.more t).bs.getD h.bs.length 0 = t := by
      show (h.bs ++ [t]).getD h.bs.length 0 = t
      simp [List.getD_eq_getElem?_getD]
    constructor
    · intro H
      refine ⟨fun c hc => ?_, ?_⟩
      · have := H c (by omega); rw [e1 c hc] at this; exact this
      · have := H h.bs.length (by omega); rw [e2] at this; exact this
    · rintro ⟨H1, H2⟩ c hc
      by_cases e : c < h.bs.length
      · rw [e1 c e]; exact H1 c e
      · obtain rfl : c = h.bs.length := by omega
        rw [e2]; exact H2
  have el : ∀ t : Int, (h.more t).bs.length = h.bs.length + 1 := fun t => by simp [Hs.more]
  constructor
  · intro P
    have k1 := (key s).1 P.f
    exact ⟨⟨P.l, fun c hc => by have := P.c c hc; rw [el] at this ⊢; exact this, (key 99).2 ⟨k1.1, by omega⟩⟩, k1.2⟩
  · rintro ⟨P, h2⟩
    exact ⟨P.l, fun c hc => by have := P.c c hc; rw [el] at this ⊢; exact this, (key s).2 ⟨((key 99).1 P.f).1, h2⟩⟩
def lastF (h : Hs) (x : List Int) : Int := ndP h.ks h.fl (prs h.ps x h.bs.length)
theorem buy_eq (G : HG h) (hb : h.bs.length < 4) : (buyF h 100).isSome = decide ((h.more 99).pk ≠ []) ∧ ((h.more 99).pk ≠ [] → buyN h = lsf (lastF h) (h.more 99).pk) := by
  by_cases hp : (h.more 99).pk = []
  · have : buyF h 100 = none := by
      unfold buyF
      rw [List.find?_eq_none]
      intro s hs
      have hs := List.mem_range.1 hs
      simp only [decide_eq_true_eq, Decidable.not_not]
      rw [List.eq_nil_iff_forall_not_mem]
      intro x hx
      have := (more_mem G hb (s := (s : Int)) (by omega)).1 hx
      rw [hp] at this; cases this.1
    rw [this]
    exact ⟨by simp [hp], fun h => absurd hp h⟩
  · obtain ⟨⟨x, hx, ex⟩, hl⟩ := lsf_spec (f := lastF h) hp
    have h99 := ((more_mem G hb (s := 99) (by omega)).1 hx).2
    have h0 : 0 ≤ lastF h x := by
      have h1 := lb_bd (G.pp x h.bs.length)
      have h2 := sl_bd G.g (G.pp x h.bs.length)
      unfold lastF ndP; omega
    have h99' : lastF h x ≤ 99 := h99
    obtain ⟨s, hs⟩ : ∃ s : Nat, lsf (lastF h) (h.more 99).pk = s := ⟨(lsf (lastF h) (h.more 99).pk).toNat, by omega⟩
    have : buyF h 100 = some s := by
      unfold buyF
      rw [List.find?_range_eq_some]
      refine ⟨?_, List.mem_range.2 (by omega), fun j hj => ?_⟩
      · simp only [decide_eq_true_eq]
        intro e
        have := (more_mem G hb (s := (s : Int)) (by omega)).2 ⟨hx, by rw [← hs, ← ex]; exact Int.le_refl _⟩
        rw [e] at this; cases this
      · simp only [Bool.not_eq_true', decide_eq_false_iff_not, Decidable.not_not]
        rw [List.eq_nil_iff_forall_not_mem]
        intro y hy
        have := (more_mem G hb (s := (j : Int)) (by omega)).1 hy
        have h3 := hl y this.1
        have h4 : lastF h y ≤ j := this.2
        omega
    refine ⟨by rw [this]; simp [hp], fun _ => ?_⟩
    unfold buyN; rw [this, hs]
set_option maxHeartbeats 4000000 in
theorem s44 (H : HsOk h k p b) (st : Bool) : Iso E 27 [hsV h.fl k p b] st = some (buyV h) := by
  have a1 := fun st => s19 H st
  simp only [hsV] at a1
  have key : HG h → ∀ st, Iso E 44 [.agg [k, I h.fl, p, b]] st = some (.tup [I (if h.pk ≠ [] then 0 else if h.bs.length = 4 then 0 else buyN h), I (if h.pk ≠ [] then 0 else if h.bs.length = 4 then 2 else if (buyF h 100).isSome then 0 else 3)]) := by
    intro G st
    have nb := G.nb
    have c98 := fun st => s98 H G st
    simp only [hsV] at c98
    refine Iso_of (es _ _ _ _) e44 ?_
    simp only [f44]
    by_cases hp : h.pk ≠ []
    · rw [if_pos hp, if_pos hp]
      rw [decide_eq_true hp] at c98
      simp (disch := first | assumption | omega | (simp only [az]; done)) only [ru, eq_self, if_true, if_false, BEq.rfl, binI, AO.row?, splice, fillL, mmAll, loadV, storeV, zeros, Am.rowAt, Am.part, addOff, Nat.reduceAdd, Nat.reduceMul, Nat.reduceLeDiff, Nat.reduceSub, Nat.reduceLT, Int.reduceEq, Int.reduceLT, Int.reduceLE, Int.reduceGT, Int.reduceGE, Int.reduceAdd, Int.reduceSub, Int.reduceMul, Int.reduceNeg, Int.reduceToNat, reduceCtorEq, reduceIte, lenV_sl H.k, lenV_sl H.p, lenV_sl H.b, elem_kd H.k, elem_pr H.p, elem_in H.b, view_sl H.k, view_sl H.p, view_sl H.b, scalar_sl H.k, scalar_sl H.p, scalar_sl H.b, cells_sl H.k, cells_sl H.p, cells_sl H.b, pure_sl H.k, pure_sl H.p, pure_sl H.b, Int.toNat_natCast, c98]
      done
    rw [if_neg hp, if_neg hp]
    rw [decide_eq_false hp] at c98
    by_cases h4 : h.bs.length = 4
    · rw [if_pos h4, if_pos h4]
      have h4' : (h.bs.length : Int) = 4 := by omega
      simp (disch := first | assumption | omega | (simp only [az]; done)) only [ru, eq_self, if_true, if_false, BEq.rfl, binI, AO.row?, splice, fillL, mmAll, loadV, storeV, zeros, Am.rowAt, Am.part, addOff, Nat.reduceAdd, Nat.reduceMul, Nat.reduceLeDiff, Nat.reduceSub, Nat.reduceLT, Int.reduceEq, Int.reduceLT, Int.reduceLE, Int.reduceGT, Int.reduceGE, Int.reduceAdd, Int.reduceSub, Int.reduceMul, Int.reduceNeg, Int.reduceToNat, reduceCtorEq, reduceIte, lenV_sl H.k, lenV_sl H.p, lenV_sl H.b, elem_kd H.k, elem_pr H.p, elem_in H.b, view_sl H.k, view_sl H.p, view_sl H.b, scalar_sl H.k, scalar_sl H.p, scalar_sl H.b, cells_sl H.k, cells_sl H.p, cells_sl H.b, pure_sl H.k, pure_sl H.p, pure_sl H.b, Int.toNat_natCast, c98, h4', decide_true]
      done
    rw [if_neg h4, if_neg h4]
    have h4' : ¬ (h.bs.length : Int) = 4 := by omega
    have G9 := more_G G (by omega) (s := 99) (by omega)
    have H9 : HsOk (h.more 99) k p (slV 1 intL (h.bs ++ [99])) := { k := H.k, p := H.p, b := slV_is, nk := H.nk, np := H.np, nb := by have := G9.nb; omega }
    have c103 := s103 H 99
    have c76 := fun st => s76 H9 G9 (K := 60) (f := lastF h) (fun x P => by
      have h1 := prs_bd G x h.bs.length
      unfold lastF ndP; omega) (fun x P g => q104 H9 G9 (c := h.bs.length) (by simp [Hs.more]) x g) st
    have fls : (h.more 99).fl = h.fl := rfl
    simp only [hsV, fls] at c103 c76
    obtain ⟨b9, hb9⟩ : ∃ b9, b9 = slV 1 intL (h.bs ++ [99]) := ⟨_, rfl⟩
    have V9 : IsSl 1 intL (h.bs ++ [99]) b9 := by rw [hb9]; exact slV_is
    rw [← hb9] at c103 c76
    obtain ⟨B1, B2⟩ := buy_eq G (by omega)
    by_cases h9 : (h.more 99).pk = []
    · simp only [h9, if_true] at c76
      have e1 : (buyF h 100).isSome = false := by rw [B1, h9]; rfl
      have e2 : buyN h = 0 := by
        unfold buyN
        cases hf : buyF h 100 with
        | none => rfl
        | some s => rw [hf] at e1; cases e1
      rw [e1, e2]
      simp (disch := first | assumption | omega | (simp only [az]; done)) only [ru, eq_self, if_true, if_false, BEq.rfl, binI, AO.row?, splice, fillL, mmAll, loadV, storeV, zeros, Am.rowAt, Am.part, addOff, Nat.reduceAdd, Nat.reduceMul, Nat.reduceLeDiff, Nat.reduceSub, Nat.reduceLT, Int.reduceEq, Int.reduceLT, Int.reduceLE, Int.reduceGT, Int.reduceGE, Int.reduceAdd, Int.reduceSub, Int.reduceMul, Int.reduceNeg, Int.reduceToNat, reduceCtorEq, reduceIte, lenV_sl H.k, lenV_sl H.p, lenV_sl H.b, elem_kd H.k, elem_pr H.p, elem_in H.b, view_sl H.k, view_sl H.p, view_sl H.b, scalar_sl H.k, scalar_sl H.p, scalar_sl H.b, cells_sl H.k, cells_sl H.p, cells_sl H.b, pure_sl H.k, pure_sl H.p, pure_sl H.b, Int.toNat_natCast, lenV_sl V9, elem_in V9, view_sl V9, scalar_sl V9, cells_sl V9, pure_sl V9, Int.toNat_natCast, c98, h4', c103, c76, Bool.false_eq_true, if_false, decide_false]
      done
    · simp only [h9, if_false] at c76
      have e1 : (buyF h 100).isSome = true := by rw [B1]; exact decide_eq_true h9
      rw [e1, B2 h9]
      obtain ⟨Ls, hLs⟩ : ∃ Ls : AV, Ls = slV 1 intL ((bsf (lastF h) (h.more 99).pk).getD []) := ⟨_, rfl⟩
      rw [← hLs] at c76
      simp (disch := first | assumption | omega | (simp only [az]; done)) only [ru, eq_self, if_true, if_false, BEq.rfl, binI, AO.row?, splice, fillL, mmAll, loadV, storeV, zeros, Am.rowAt, Am.part, addOff, Nat.reduceAdd, Nat.reduceMul, Nat.reduceLeDiff, Nat.reduceSub, Nat.reduceLT, Int.reduceEq, Int.reduceLT, Int.reduceLE, Int.reduceGT, Int.reduceGE, Int.reduceAdd, Int.reduceSub, Int.reduceMul, Int.reduceNeg, Int.reduceToNat, reduceCtorEq, reduceIte, lenV_sl H.k, lenV_sl H.p, lenV_sl H.b, elem_kd H.k, elem_pr H.p, elem_in H.b, view_sl H.k, view_sl H.p, view_sl H.b, scalar_sl H.k, scalar_sl H.p, scalar_sl H.b, cells_sl H.k, cells_sl H.p, cells_sl H.b, pure_sl H.k, pure_sl H.p, pure_sl H.b, Int.toNat_natCast, lenV_sl V9, elem_in V9, view_sl V9, scalar_sl V9, cells_sl V9, pure_sl V9, Int.toNat_natCast, c98, h4', c103, c76, if_true, decide_false]
  refine Iso_of (es _ _ _ _) e27 ?_
  simp only [f27, hsV, buyV, buyE]
  cases hv : h.valid
  · simp (disch := first | assumption | omega | (simp only [az]; done)) only [ru, eq_self, if_true, if_false, BEq.rfl, binI, AO.row?, splice, fillL, mmAll, loadV, storeV, zeros, Am.rowAt, Am.part, addOff, Nat.reduceAdd, Nat.reduceMul, Nat.reduceLeDiff, Nat.reduceSub, Nat.reduceLT, Int.reduceEq, Int.reduceLT, Int.reduceLE, Int.reduceGT, Int.reduceGE, Int.reduceAdd, Int.reduceSub, Int.reduceMul, Int.reduceNeg, Int.reduceToNat, reduceCtorEq, reduceIte, lenV_sl H.k, lenV_sl H.p, lenV_sl H.b, elem_kd H.k, elem_pr H.p, elem_in H.b, view_sl H.k, view_sl H.p, view_sl H.b, scalar_sl H.k, scalar_sl H.p, scalar_sl H.b, cells_sl H.k, cells_sl H.p, cells_sl H.b, pure_sl H.k, pure_sl H.p, pure_sl H.b, Int.toNat_natCast, a1, hv, vE, if_false, Bool.false_eq_true, Bool.false_and]
    done
  have G : HG h := valid_iff.1 hv
  have key := key G
  have e1 : (if (true && decide (h.pk = []) && decide (h.bs.length ≠ 4)) = true then buyN h else 0) = (if h.pk ≠ [] then 0 else if h.bs.length = 4 then 0 else buyN h) := by
    by_cases h1 : h.pk = []
    · by_cases h2 : h.bs.length = 4
      · simp [h1, h2]
      · simp [h1, h2]
    · simp [h1]
  rw [e1, if_pos rfl]
  obtain ⟨X, hX⟩ : ∃ X, X = (if h.pk ≠ [] then 0 else if h.bs.length = 4 then 0 else buyN h) := ⟨_, rfl⟩
  obtain ⟨Y, hY⟩ : ∃ Y : Int, Y = (if h.pk ≠ [] then 0 else if h.bs.length = 4 then 2 else if (buyF h 100).isSome then 0 else 3) := ⟨_, rfl⟩
  simp only [← hX, ← hY] at key ⊢
  simp (disch := first | assumption | omega | (simp only [az]; done)) only [ru, eq_self, if_true, if_false, BEq.rfl, binI, AO.row?, splice, fillL, mmAll, loadV, storeV, zeros, Am.rowAt, Am.part, addOff, Nat.reduceAdd, Nat.reduceMul, Nat.reduceLeDiff, Nat.reduceSub, Nat.reduceLT, Int.reduceEq, Int.reduceLT, Int.reduceLE, Int.reduceGT, Int.reduceGE, Int.reduceAdd, Int.reduceSub, Int.reduceMul, Int.reduceNeg, Int.reduceToNat, reduceCtorEq, reduceIte, lenV_sl H.k, lenV_sl H.p, lenV_sl H.b, elem_kd H.k, elem_pr H.p, elem_in H.b, view_sl H.k, view_sl H.p, view_sl H.b, scalar_sl H.k, scalar_sl H.p, scalar_sl H.b, cells_sl H.k, cells_sl H.p, cells_sl H.b, pure_sl H.k, pure_sl H.p, pure_sl H.b, Int.toNat_natCast, a1, hv, key, vE, if_true]
end
end Go.Proofs.Ytaffjmjahenoaaa.A

/-
The chapter's examples.
-/
namespace Go.Proofs.Ytaffjmjahenoaaa.A
open Go Go.Am Go.Proofs.Ytaffjmjahenoaaa.T
set_option maxRecDepth 100000
set_option linter.unusedSimpArgs false
set_option linter.unusedVariables false

def exS : Hs := ⟨[⟨3, 10⟩, ⟨5, 4⟩], 2, [⟨0, 10⟩, ⟨0, 15⟩, ⟨1, 8⟩], [40, 20]⟩
def exK : AV := .cs 2 2 [I 3, I 10, I 5, I 4]
def exP : AV := .cs 2 3 [I 0, I 10, I 0, I 15, I 1, I 8]
theorem exS_ok : HsOk exS exK exP (.cs 1 2 [I 40, I 20]) := { k := .inl rfl, p := .inl rfl, b := .inl rfl, nk := by decide, np := by decide, nb := by decide }
theorem finCC {lim i j s s' : Nat} {a a' : Bool} {P : AV → List AO → Prop} {ts : List AV} {h : List AO} : Done lim [.cell a s i, .cell a' s' j] P .ret ⟨ts, h, []⟩ = ∃ v, getRes ts h (.cell a s i) = some v ∧ ∃ w, getRes ts h (.cell a' s' j) = some w ∧ P (.tup [v, w]) h := by
  simp only [Done, finish, takeMarks, List.all_nil, if_true, List.mapM_cons, List.mapM_nil, Option.bind_eq_bind, Option.pure_def]
  cases getRes ts h (.cell a s i) <;> cases getRes ts h (.cell a' s' j) <;> simp
set_option maxHeartbeats 4000000 in
theorem s64 : Iso E 19 [] false = some (.tup [hsV 2 exK exP (.cs 1 2 [I 40, I 20]), hsV 2 exK exP (.cs 1 2 [I 40, I 13])]) := by
  refine Iso_of (es _ _ _ _) e19 ?_
  simp only [f19, hsV, exK, exP]
  have n10 : ((1 : Nat) != 0) = true := rfl
  have n01 : ((0 : Nat) != 1) = true := rfl
  simp (disch := first | assumption | omega | (simp only [az]; done)) only [ru, eq_self, if_true, if_false, BEq.rfl, binI, AO.row?, splice, fillL, mmAll, loadV, storeV, zeros, Am.rowAt, Am.part, addOff, Nat.reduceAdd, Nat.reduceMul, Nat.reduceLeDiff, Nat.reduceSub, Nat.reduceLT, Int.reduceEq, Int.reduceLT, Int.reduceLE, Int.reduceGT, Int.reduceGE, Int.reduceAdd, Int.reduceSub, Int.reduceMul, Int.reduceNeg, Int.reduceToNat, reduceCtorEq, reduceIte, rmr, exOp_litS, exOp_loadR, exOp_storeR, objIs, objNot, objIsA, objNotA, finCC, getRes, Option.some.injEq, exists_eq_left', List.all_cons, List.all_nil, Bool.and_true, n10, n01]
section
theorem x32 : Iso E 20 [hsV 2 exK exP (.cs 1 2 [I 40, I 20])] false = some (.tup [.cs 1 3 [I 0, I 0, I 1], I 0]) := by
  have a := s32 exS_ok
  have f1 : askE exS.valid true exS.pk = 0 := by decide +kernel
  have f2 : bsf exS.sa exS.pk = some [0, 0, 1] := by decide +kernel
  rw [f1, f2] at a
  exact a
end
end Go.Proofs.Ytaffjmjahenoaaa.A

