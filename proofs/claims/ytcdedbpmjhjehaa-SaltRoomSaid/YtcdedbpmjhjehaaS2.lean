/-
The mathematics and the functions, one after another (S2).
-/
import Derived.Test.YtcdedbpmjhjehaaS1

/-
The specification's answers that are lists; copies; what the laws ask of houses.
-/
namespace Go.Proofs.Ytcdedbpmjhjehaa.S
open Go Go.Am Go.Proofs.Ytcdedbpmjhjehaa.T
set_option maxRecDepth 100000
set_option linter.unusedSimpArgs false
set_option linter.unusedVariables false

/-- barrels in which a part is; barrels that are without -/
def Hs.whr (h : Hs) (q : Nat) : List Int := idx (fun b => h.pk.any fun x => decide (x.getD q 0 = (b : Int))) h.bs.length
def Hs.spr (h : Hs) : List Int := idx (fun b => h.pk.any fun x => decide ((prs h.ps x b).length = 0)) h.bs.length
def ansL (e : Int) (l : List Int) : AV := .tup [if e = 0 then resL l else .nils, I e]
section
variable {h : Hs} {k p b : AV}

end
end Go.Proofs.Ytcdedbpmjhjehaa.S

/-
Copies of houses, with a barrel more, without a part; what is bought (specification).
-/
namespace Go.Proofs.Ytcdedbpmjhjehaa.S
open Go Go.Am Go.Proofs.Ytcdedbpmjhjehaa.T
set_option maxRecDepth 100000
set_option linter.unusedSimpArgs false
set_option linter.unusedVariables false

theorem flat_shift {α : Type} {enc : α → List AV} (hi : ∀ a, ∀ x ∈ enc a, ∃ k i, x = .int k i) (l : List α) (n : Nat) : (l.flatMap enc).map (AV.shift n) = l.flatMap enc := by
  rw [← List.map_id (l.flatMap enc), List.map_map]
  apply List.map_congr_left
  intro x hx
  obtain ⟨a, _, hx⟩ := List.mem_flatMap.1 hx
  obtain ⟨k, i, rfl⟩ := hi a x hx
  rfl
/-- a house that lies in new memory -/
structure CpH (h : Hs) (g : List AO) (ok op ob : Nat) : Prop where
  n1 : ok < op
  n2 : op < ob
  k : g[ok]? = some (.cells (h.ks.flatMap Kd.e) false)
  p : g[op]? = some (.cells (h.ps.flatMap Pr.e) false)
  b : g[ob]? = some (.cells (h.bs.flatMap intL) false)
abbrev msK (h : Hs) (o : Nat) : AV := .ms 2 o 0 h.ks.length
abbrev msP (h : Hs) (o : Nat) : AV := .ms 2 o 0 h.ps.length
abbrev msB (h : Hs) (o : Nat) : AV := .ms 1 o 0 h.bs.length
abbrev cpV (h : Hs) : AV := hsV h.fl (slV 2 Kd.e h.ks) (slV 2 Pr.e h.ps) (slV 1 intL h.bs)
theorem cpV_in {h : Hs} : HsIn h (slV 2 Kd.e h.ks) (slV 2 Pr.e h.ps) (slV 1 intL h.bs) := ⟨slV_is, slV_is, slV_is⟩
theorem viewK {l : List Kd} {g : List AO} {o : Nat} (hc : g[o]? = some (.cells (l.flatMap Kd.e) false)) {st : Bool} {n : Nat} : Am.view st g (n + 1) (.ms 2 o 0 l.length) = some (slV 2 Kd.e l) := RdC.view (enc := Kd.e) ⟨o, rfl, hc⟩ Kd.el Kd.iv
theorem viewP {l : List Pr} {g : List AO} {o : Nat} (hc : g[o]? = some (.cells (l.flatMap Pr.e) false)) {st : Bool} {n : Nat} : Am.view st g (n + 1) (.ms 2 o 0 l.length) = some (slV 2 Pr.e l) := RdC.view (enc := Pr.e) ⟨o, rfl, hc⟩ Pr.el Pr.iv
theorem viewB {l : List Int} {g : List AO} {o : Nat} (hc : g[o]? = some (.cells (l.flatMap intL) false)) {st : Bool} {n : Nat} : Am.view st g (n + 1) (.ms 1 o 0 l.length) = some (slV 1 intL l) := RdC.view (enc := intL) ⟨o, rfl, hc⟩ intE intIv
theorem CpH.view {h : Hs} {g : List AO} {ok op ob : Nat} (C : CpH h g ok op ob) (st : Bool) {n : Nat} : Am.view st g (n + 2) (hsV h.fl (msK h ok) (msP h op) (msB h ob)) = some (cpV h) := by
  show ([msK h ok, I h.fl, msP h op, msB h ob].mapM (Am.view st g (n + 1))).map AV.agg = _
  simp only [List.mapM_cons, List.mapM_nil, view_int, viewK C.k, viewP C.p, viewB C.b]
  rfl
theorem set_of {α : Type} {l : List α} {i j : Nat} {x y : α} (h : l[j]? = some y) (hne : i ≠ j) : (l.set i x)[j]? = some y := by rw [List.getElem?_set_ne hne]; exact h
theorem set_at {α : Type} {l : List α} {i : Nat} {x y : α} (h : l[i]? = some y) : (l.set i x)[i]? = some x := by
  have := (List.getElem?_eq_some_iff.1 h).1
  simp [this]
section
variable {h : Hs} {k p b : AV}
set_option maxHeartbeats 4000000 in
theorem r17 (H : HsOk h k p b) : ∃ J ok op ob, R E (.fn 17) [hsV h.fl k p b] [] 0 = some (hsV h.fl (msK h ok) (msP h op) (msB h ob), J) ∧ CpH h J ok op ob := by
  have n1 := H.nk; have n2 := H.np; have n3 := H.nb
  obtain ⟨o1, h1, A1, fr1, lo1, hc1⟩ := cpyO (eb := 16) (lim := 0) (h := [.cells [k, I h.fl, p, b] false, .cells [.nils, I 0, .nils, .nils] false, .cells [k, I h.fl, p, b] false]) H.k Kd.el Kd.sc (by omega) (by omega) (Nat.zero_le _)
  simp only [List.length_cons, List.length_nil, Nat.zero_add, Nat.reduceAdd, apC, apN] at A1 lo1
  have a0 := fr1.at (j := 0) rfl
  have a1 := fr1.at (j := 1) rfl
  have a2 := fr1.at (j := 2) rfl
  obtain ⟨H1, e1⟩ : ∃ H1, H1 = h1.set 2 (.cells [msK h o1, I h.fl, p, b] false) := ⟨_, rfl⟩
  have b0 : H1[0]? = some (.cells [k, I h.fl, p, b] false) := by rw [e1]; exact set_of a0 (by omega)
  have b1 : H1[1]? = some (.cells [.nils, I 0, .nils, .nils] false) := by rw [e1]; exact set_of a1 (by omega)
  have b2 : H1[2]? = some (.cells [msK h o1, I h.fl, p, b] false) := by rw [e1]; exact set_at a2
  have bk : H1[o1]? = some (.cells (h.ks.flatMap Kd.e) false) := by rw [e1]; exact set_of hc1 (by omega)
  have l1 := (List.getElem?_eq_some_iff.1 b2).1
  have lk := (List.getElem?_eq_some_iff.1 bk).1
  obtain ⟨o2, h2, A2, fr2, lo2, hc2⟩ := cpyO (eb := 16) (lim := 0) (h := H1) H.p Pr.el Pr.sc (by omega) (by omega) (Nat.zero_le _)
  obtain ⟨H2, e2⟩ : ∃ H2, H2 = h2.set 2 (.cells [msK h o1, I h.fl, msP h o2, b] false) := ⟨_, rfl⟩
  have c0 : H2[0]? = some (.cells [k, I h.fl, p, b] false) := by rw [e2]; exact set_of (fr2.at b0) (by omega)
  have c1 : H2[1]? = some (.cells [.nils, I 0, .nils, .nils] false) := by rw [e2]; exact set_of (fr2.at b1) (by omega)
  have c2 : H2[2]? = some (.cells [msK h o1, I h.fl, msP h o2, b] false) := by rw [e2]; exact set_at (fr2.at b2)
  have ck : H2[o1]? = some (.cells (h.ks.flatMap Kd.e) false) := by rw [e2]; exact set_of (fr2.at bk) (by omega)
  have cp : H2[o2]? = some (.cells (h.ps.flatMap Pr.e) false) := by rw [e2]; exact set_of hc2 (by omega)
  have l2 := (List.getElem?_eq_some_iff.1 c2).1
  have lp := (List.getElem?_eq_some_iff.1 cp).1
  obtain ⟨o3, h3, A3, fr3, lo3, hc3⟩ := cpyO (eb := 8) (lim := 0) (h := H2) H.b intE intSc (by omega) (by omega) (Nat.zero_le _)
  obtain ⟨H3, e3⟩ : ∃ H3, H3 = h3.set 2 (.cells [msK h o1, I h.fl, msP h o2, msB h o3] false) := ⟨_, rfl⟩
  have d0 : H3[0]? = some (.cells [k, I h.fl, p, b] false) := by rw [e3]; exact set_of (fr3.at c0) (by omega)
  have d1 : H3[1]? = some (.cells [.nils, I 0, .nils, .nils] false) := by rw [e3]; exact set_of (fr3.at c1) (by omega)
  have d2 : H3[2]? = some (.cells [msK h o1, I h.fl, msP h o2, msB h o3] false) := by rw [e3]; exact set_at (fr3.at c2)
  have dk : H3[o1]? = some (.cells (h.ks.flatMap Kd.e) false) := by rw [e3]; exact set_of (fr3.at ck) (by omega)
  have dp : H3[o2]? = some (.cells (h.ps.flatMap Pr.e) false) := by rw [e3]; exact set_of (fr3.at cp) (by omega)
  have db : H3[o3]? = some (.cells (h.bs.flatMap intL) false) := by rw [e3]; exact set_of hc3 (by omega)
  have l3 := (List.getElem?_eq_some_iff.1 d2).1
  refine (fun x => ?_ : (∃ r g, R E (.fn 17) [hsV h.fl k p b] [] 0 = some (r, g) ∧ (r = hsV h.fl (msK h o1) (msP h o2) (msB h o3) ∧ CpH h g o1 o2 o3)) → _) (R_of _ (es _ _ _ _) e17 ?_)
  · obtain ⟨r, g, hr, rfl, hc⟩ := x; exact ⟨g, _, _, _, hr, hc⟩
  simp only [f17, hsV]
  simp (disch := first | assumption | omega | (simp only [az]; done)) only [ru, eq_self, if_true, if_false, BEq.rfl, binI, AO.row?, splice, fillL, mmAll, loadV, storeV, zeros, Am.rowAt, Am.part, addOff, Nat.reduceAdd, Nat.reduceMul, Nat.reduceLeDiff, Nat.reduceSub, Nat.reduceLT, Int.reduceEq, Int.reduceLT, Int.reduceLE, Int.reduceGT, Int.reduceGE, Int.reduceAdd, Int.reduceSub, Int.reduceMul, Int.reduceNeg, Int.reduceToNat, reduceCtorEq, reduceIte, lenV_sl H.k, lenV_sl H.p, lenV_sl H.b, elem_kd H.k, elem_pr H.p, elem_in H.b, view_sl H.k, view_sl H.p, view_sl H.b, scalar_sl H.k, scalar_sl H.p, scalar_sl H.b, cells_sl H.k, cells_sl H.p, cells_sl H.b, pure_sl H.k, pure_sl H.p, pure_sl H.b, Int.toNat_natCast, exOp_buildSlice, List.map_nil, exOp_append, A1, a0, a1, a2, ← e1, b0, b1, b2, l1, at_ap, A2, fr2.at b0, fr2.at b2, ← e2, c0, c2, l2, A3, fr3.at c0, fr3.at c2, ← e3, d0, d1, d2, l3, finC, getRes, Option.some.injEq, exists_eq_left', set_at d1]
  exact ⟨by omega, by omega, set_of dk (by omega), set_of dp (by omega), set_of db (by omega)⟩
theorem s17 (H : HsOk h k p b) (st : Bool) : Iso E 17 [hsV h.fl k p b] st = some (cpV h) := by
  obtain ⟨J, ok, op, ob, hr, C⟩ := r17 H
  simp only [Iso, hr]
  exact C.view st
theorem c17 (H : HsOk h k p b) (g : List AO) : ∃ ok op ob g', C2 E 17 [hsV h.fl k p b] g = some (hsV h.fl (msK h ok) (msP h op) (msB h ob), g') ∧ Fr g g' ∧ g.length ≤ ok ∧ CpH h g' ok op ob := by
  obtain ⟨J, ok, op, ob, hr, C⟩ := r17 H
  refine ⟨ok + g.length, op + g.length, ob + g.length, _, C2_of (by simp only [AV.pureV.go, AV.pureV, pure_sl H.k, pure_sl H.p, pure_sl H.b, Bool.and_true]) hr, Fr.app _ _, by omega, ?_⟩
  have ap : ∀ {o : Nat} {c : List AV}, J[o]? = some (.cells c false) → (∀ n, c.map (AV.shift n) = c) → (g ++ J.map (AO.shift g.length))[o + g.length]? = some (.cells c false) := by
    intro o c hc hs
    rw [List.getElem?_append_right (by omega), Nat.add_sub_cancel, List.getElem?_map, hc]
    simp only [Option.map_some, AO.shift, hs]
  exact ⟨by have := C.n1; omega, by have := C.n2; omega, ap C.k fun n => flat_shift Kd.iv _ n, ap C.p fun n => flat_shift Pr.iv _ n, ap C.b fun n => flat_shift intIv _ n⟩
def Hs.more (h : Hs) (s : Int) : Hs := { h with bs := h.bs ++ [s] }
set_option maxHeartbeats 2000000 in
theorem s59 (H : HsOk h k p b) (s : Int) (st : Bool) : Iso E 59 [hsV h.fl k p b, I s] st = some (cpV (h.more s)) := by
  have n3 := H.nb
  obtain ⟨ok, op, ob, g, C, fr, lo, CP⟩ := c17 H [.cells [k, I h.fl, p, b] false, .cells [.nils, I 0, .nils, .nils] false]
  simp only [List.length_cons, List.length_nil, Nat.zero_add, Nat.reduceAdd] at lo
  have x1 := CP.n1; have x2 := CP.n2
  have a0 := fr.at (j := 0) rfl
  have a1 := fr.at (j := 1) rfl
  obtain ⟨g1, e1⟩ : ∃ g1, g1 = g ++ [AO.cells [msK h ok, I h.fl, msP h op, msB h ob] false] := ⟨_, rfl⟩
  have lg := (List.getElem?_eq_some_iff.1 CP.b).1
  have b1 : g1[1]? = some (.cells [.nils, I 0, .nils, .nils] false) := by rw [e1, at_ap (by omega)]; exact a1
  have bo : g1[g.length]? = some (.cells [msK h ok, I h.fl, msP h op, msB h ob] false) := by rw [e1]; exact atE
  have bb : g1[ob]? = some (.cells (h.bs.flatMap intL) false) := by rw [e1, at_ap lg]; exact CP.b
  have bk : g1[ok]? = some (.cells (h.ks.flatMap Kd.e) false) := by rw [e1, at_ap (by omega)]; exact CP.k
  have bp : g1[op]? = some (.cells (h.ps.flatMap Pr.e) false) := by rw [e1, at_ap (by omega)]; exact CP.p
  have lg1 : g1.length = g.length + 1 := by rw [e1]; simp
  have A := appV_ms (lim := 0) (esz := 1) (eb := 8) (n := 1) (x := .cs 1 1 [I s]) (xs := [I s]) bb (by rw [flat_len intE]) rfl rfl rfl rfl (by omega) (by omega) (Nat.zero_le _)
  rw [if_neg (by omega)] at A
  obtain ⟨g2, e2⟩ : ∃ g2, g2 = g1.set ob .tomb ++ [AO.cells (h.bs.flatMap intL ++ [I s]) false] := ⟨_, rfl⟩
  rw [← e2] at A
  have lg2 : g2.length = g.length + 2 := by rw [e2]; simp; omega
  have at2 : ∀ {j : Nat} {y : AO}, g1[j]? = some y → j ≠ ob → g2[j]? = some y := by
    intro j y hy hne
    have := (List.getElem?_eq_some_iff.1 hy).1
    rw [e2, at_ap (by simp; exact this)]
    exact set_of hy (Ne.symm hne)
  have c1 := at2 b1 (by omega)
  have co := at2 bo (by omega)
  have ck := at2 bk (by omega)
  have cp := at2 bp (by omega)
  have cn : g2[g1.length]? = some (.cells ((h.bs ++ [s]).flatMap intL) false) := by
    have : (g1.set ob .tomb).length = g1.length := by simp
    rw [e2, ← this, atE, List.flatMap_append]; rfl
  obtain ⟨g3, e3⟩ : ∃ g3, g3 = g2.set g.length (.cells [msK h ok, I h.fl, msP h op, .ms 1 g1.length 0 (h.bs.length + 1)] false) := ⟨_, rfl⟩
  have do_ : g3[g.length]? = some (.cells [msK h ok, I h.fl, msP h op, .ms 1 g1.length 0 (h.bs.length + 1)] false) := by rw [e3]; exact set_at co
  have d1 : g3[1]? = some (.cells [.nils, I 0, .nils, .nils] false) := by rw [e3]; exact set_of c1 (by omega)
  have dk : g3[ok]? = some (.cells (h.ks.flatMap Kd.e) false) := by rw [e3]; exact set_of ck (by omega)
  have dp : g3[op]? = some (.cells (h.ps.flatMap Pr.e) false) := by rw [e3]; exact set_of cp (by omega)
  have dn : g3[g1.length]? = some (.cells ((h.bs ++ [s]).flatMap intL) false) := by rw [e3]; exact set_of cn (by omega)
  have l3 : g3.length = g.length + 2 := by rw [e3]; simp; exact lg2
  have lb1 : (h.bs ++ [s]).length = h.bs.length + 1 := by simp
  have vw : ∀ X n, view st (g3.set 1 X) (n + 2) (hsV h.fl (msK h ok) (msP h op) (.ms 1 g1.length 0 (h.bs.length + 1))) = some (cpV (h.more s)) := by
    intro X n
    have v1 := viewK (st := st) (n := n) (set_of (i := 1) (x := X) dk (by omega))
    have v2 := viewP (st := st) (n := n) (set_of (i := 1) (x := X) dp (by omega))
    have v3 := viewB (st := st) (n := n) (set_of (i := 1) (x := X) dn (by omega))
    rw [lb1] at v3
    show ([msK h ok, I h.fl, msP h op, .ms 1 g1.length 0 (h.bs.length + 1)].mapM (Am.view st (g3.set 1 X) (n + 1))).map AV.agg = _
    simp only [List.mapM_cons, List.mapM_nil, view_int, v1, v2, v3]
    rfl
  simp only [hsV] at C vw
  refine Iso_of (es _ _ _ _) e59 ?_
  simp only [f59, hsV]
  simp (disch := first | assumption | omega | (simp only [az]; done)) only [ru, eq_self, if_true, if_false, BEq.rfl, binI, AO.row?, splice, fillL, mmAll, loadV, storeV, zeros, Am.rowAt, Am.part, addOff, Nat.reduceAdd, Nat.reduceMul, Nat.reduceLeDiff, Nat.reduceSub, Nat.reduceLT, Int.reduceEq, Int.reduceLT, Int.reduceLE, Int.reduceGT, Int.reduceGE, Int.reduceAdd, Int.reduceSub, Int.reduceMul, Int.reduceNeg, Int.reduceToNat, reduceCtorEq, reduceIte, lenV_sl H.k, lenV_sl H.p, lenV_sl H.b, elem_kd H.k, elem_pr H.p, elem_in H.b, view_sl H.k, view_sl H.p, view_sl H.b, scalar_sl H.k, scalar_sl H.p, scalar_sl H.b, cells_sl H.k, cells_sl H.p, cells_sl H.b, pure_sl H.k, pure_sl H.p, pure_sl H.b, Int.toNat_natCast, exOp_call2, C, ← e1, bo, exOp_litS, AV.pureV.go, AV.pureV, Bool.and_true, exOp_append, A, co, ← e3, do_, d1, finC, getRes, Option.some.injEq, exists_eq_left', set_at d1, vw]
end
end Go.Proofs.Ytcdedbpmjhjehaa.S

/-
What the laws ask of houses; a part less; what is bought, and the rest of the specification's answers.
-/
namespace Go.Proofs.Ytcdedbpmjhjehaa.S
open Go Go.Am Go.Proofs.Ytcdedbpmjhjehaa.T
set_option maxRecDepth 100000
set_option linter.unusedSimpArgs false
set_option linter.unusedVariables false

theorem s28 {l : List Int} {u v : AV} (U : IsSl 1 intL l u) (V : IsSl 1 intL l v) (hl : l.length ≤ 100000) (st : Bool) : Iso E 28 [u, v] st = some (Bo true) := by
  refine Iso_of (es _ _ _ _) e28 ?_
  simp only [f28]
  simp (disch := first | assumption | omega | (simp only [az]; done)) only [ru, eq_self, if_true, if_false, BEq.rfl, binI, AO.row?, splice, fillL, mmAll, loadV, storeV, zeros, Am.rowAt, Am.part, addOff, Nat.reduceAdd, Nat.reduceMul, Nat.reduceLeDiff, Nat.reduceSub, Nat.reduceLT, Int.reduceEq, Int.reduceLT, Int.reduceLE, Int.reduceGT, Int.reduceGE, Int.reduceAdd, Int.reduceSub, Int.reduceMul, Int.reduceNeg, Int.reduceToNat, reduceCtorEq, reduceIte, lenV_sl U, elem_in U, view_sl U, scalar_sl U, cells_sl U, pure_sl U, Int.toNat_natCast, lenV_sl V, elem_in V, view_sl V, scalar_sl V, cells_sl V, pure_sl V, Int.toNat_natCast, decide_true, Bool.not_true]
  refine G_loop_ind (fun m ts h mk => ∃ i : Nat, i ≤ l.length ∧ m = l.length - i ∧ ts.length = 26 ∧ ts.getD 0 .undef = u ∧ ts.getD 1 .undef = v ∧ ts.getD 5 .undef = I i ∧ h = [] ∧ mk = []) ?_ _ _ _ _ ⟨0, Nat.zero_le _, rfl, rfl, rfl, rfl, rfl, rfl, rfl⟩
  rintro m ts h mk ih ⟨i, hi, rfl, hl', q0, q1, q5, rfl, rfl⟩
  rw [lit_all hl']
  simp only [lit0, litS, Nat.reduceAdd, q0, q1, q5]
  simp (disch := first | assumption | omega | (simp only [az]; done)) only [ru, eq_self, if_true, if_false, BEq.rfl, binI, AO.row?, splice, fillL, mmAll, loadV, storeV, zeros, Am.rowAt, Am.part, addOff, Nat.reduceAdd, Nat.reduceMul, Nat.reduceLeDiff, Nat.reduceSub, Nat.reduceLT, Int.reduceEq, Int.reduceLT, Int.reduceLE, Int.reduceGT, Int.reduceGE, Int.reduceAdd, Int.reduceSub, Int.reduceMul, Int.reduceNeg, Int.reduceToNat, reduceCtorEq, reduceIte, lenV_sl U, elem_in U, view_sl U, scalar_sl U, cells_sl U, pure_sl U, Int.toNat_natCast]
  by_cases hlt : (i : Int) < l.length
  case pos =>
    simp (disch := first | assumption | omega | (simp only [az]; done)) only [ru, eq_self, if_true, if_false, BEq.rfl, binI, AO.row?, splice, fillL, mmAll, loadV, storeV, zeros, Am.rowAt, Am.part, addOff, Nat.reduceAdd, Nat.reduceMul, Nat.reduceLeDiff, Nat.reduceSub, Nat.reduceLT, Int.reduceEq, Int.reduceLT, Int.reduceLE, Int.reduceGT, Int.reduceGE, Int.reduceAdd, Int.reduceSub, Int.reduceMul, Int.reduceNeg, Int.reduceToNat, reduceCtorEq, reduceIte, lenV_sl U, elem_in U, view_sl U, scalar_sl U, cells_sl U, pure_sl U, Int.toNat_natCast, lenV_sl V, elem_in V, view_sl V, scalar_sl V, cells_sl V, pure_sl V, Int.toNat_natCast, hlt, decide_true, Bool.not_true]
    exact ih (l.length - (i + 1)) _ _ _ (by omega) ⟨i + 1, by omega, rfl, rfl, rfl, rfl, rfl, rfl, rfl⟩
  simp (disch := first | assumption | omega | (simp only [az]; done)) only [ru, eq_self, if_true, if_false, BEq.rfl, binI, AO.row?, splice, fillL, mmAll, loadV, storeV, zeros, Am.rowAt, Am.part, addOff, Nat.reduceAdd, Nat.reduceMul, Nat.reduceLeDiff, Nat.reduceSub, Nat.reduceLT, Int.reduceEq, Int.reduceLT, Int.reduceLE, Int.reduceGT, Int.reduceGE, Int.reduceAdd, Int.reduceSub, Int.reduceMul, Int.reduceNeg, Int.reduceToNat, reduceCtorEq, reduceIte, hlt]
theorem s18 {l : List Int} {v : AV} (V : IsSl 1 intL l v) (hl : l.length ≤ 1000) (st : Bool) : Iso E 18 [v] st = some (slV 1 intL l) := by
  obtain ⟨o, g, A, _, _, hc⟩ := cpyO (eb := 8) (lim := 0) (h := ([] : List AO)) V intE intSc (by omega) (by omega) (Nat.zero_le _)
  simp only [List.nil_append, List.length_nil] at A
  have vw := viewB (st := st) (n := 7) hc
  refine Iso_of (es _ _ _ _) e18 ?_
  simp only [f18]
  simp (disch := first | assumption | omega | (simp only [az]; done)) only [ru, eq_self, if_true, if_false, BEq.rfl, binI, AO.row?, splice, fillL, mmAll, loadV, storeV, zeros, Am.rowAt, Am.part, addOff, Nat.reduceAdd, Nat.reduceMul, Nat.reduceLeDiff, Nat.reduceSub, Nat.reduceLT, Int.reduceEq, Int.reduceLT, Int.reduceLE, Int.reduceGT, Int.reduceGE, Int.reduceAdd, Int.reduceSub, Int.reduceMul, Int.reduceNeg, Int.reduceToNat, reduceCtorEq, reduceIte, exOp_buildSlice, List.map_nil, exOp_append, A, vw]
def Hs.huge (h : Hs) : Bool := decide ((h.ks.length : Int) > 40) || decide ((h.ps.length : Int) > 40) || decide ((h.bs.length : Int) > 40)
def Hs.far (h : Hs) : Bool := h.huge || (h.valid && decide ((((h.bs.length : Int) + 1) ^ h.ps.length) > 700))
def Hs.rdy (h : Hs) : Bool := !h.far && h.valid
section
variable {h : Hs} {k p b : AV}
theorem s15 (H : HsIn h k p b) (st : Bool) : Iso E 15 [hsV h.fl k p b] st = some (Bo h.huge) := by
  refine Iso_of (es _ _ _ _) e15 ?_
  simp only [f15, hsV, Hs.huge]
  by_cases c1 : (h.ks.length : Int) > 40
  · simp (disch := first | assumption | omega | (simp only [az]; done)) only [ru, eq_self, if_true, if_false, BEq.rfl, binI, AO.row?, splice, fillL, mmAll, loadV, storeV, zeros, Am.rowAt, Am.part, addOff, Nat.reduceAdd, Nat.reduceMul, Nat.reduceLeDiff, Nat.reduceSub, Nat.reduceLT, Int.reduceEq, Int.reduceLT, Int.reduceLE, Int.reduceGT, Int.reduceGE, Int.reduceAdd, Int.reduceSub, Int.reduceMul, Int.reduceNeg, Int.reduceToNat, reduceCtorEq, reduceIte, lenV_sl H.k, lenV_sl H.p, lenV_sl H.b, elem_kd H.k, elem_pr H.p, elem_in H.b, view_sl H.k, view_sl H.p, view_sl H.b, scalar_sl H.k, scalar_sl H.p, scalar_sl H.b, cells_sl H.k, cells_sl H.p, cells_sl H.b, pure_sl H.k, pure_sl H.p, pure_sl H.b, Int.toNat_natCast, c1, decide_true, gUn, Bool.true_or]
  by_cases c2 : (h.ps.length : Int) > 40
  · simp (disch := first | assumption | omega | (simp only [az]; done)) only [ru, eq_self, if_true, if_false, BEq.rfl, binI, AO.row?, splice, fillL, mmAll, loadV, storeV, zeros, Am.rowAt, Am.part, addOff, Nat.reduceAdd, Nat.reduceMul, Nat.reduceLeDiff, Nat.reduceSub, Nat.reduceLT, Int.reduceEq, Int.reduceLT, Int.reduceLE, Int.reduceGT, Int.reduceGE, Int.reduceAdd, Int.reduceSub, Int.reduceMul, Int.reduceNeg, Int.reduceToNat, reduceCtorEq, reduceIte, lenV_sl H.k, lenV_sl H.p, lenV_sl H.b, elem_kd H.k, elem_pr H.p, elem_in H.b, view_sl H.k, view_sl H.p, view_sl H.b, scalar_sl H.k, scalar_sl H.p, scalar_sl H.b, cells_sl H.k, cells_sl H.p, cells_sl H.b, pure_sl H.k, pure_sl H.p, pure_sl H.b, Int.toNat_natCast, c1, c2, decide_true, decide_false, gUn, Bool.true_or, Bool.false_or]
  simp (disch := first | assumption | omega | (simp only [az]; done)) only [ru, eq_self, if_true, if_false, BEq.rfl, binI, AO.row?, splice, fillL, mmAll, loadV, storeV, zeros, Am.rowAt, Am.part, addOff, Nat.reduceAdd, Nat.reduceMul, Nat.reduceLeDiff, Nat.reduceSub, Nat.reduceLT, Int.reduceEq, Int.reduceLT, Int.reduceLE, Int.reduceGT, Int.reduceGE, Int.reduceAdd, Int.reduceSub, Int.reduceMul, Int.reduceNeg, Int.reduceToNat, reduceCtorEq, reduceIte, lenV_sl H.k, lenV_sl H.p, lenV_sl H.b, elem_kd H.k, elem_pr H.p, elem_in H.b, view_sl H.k, view_sl H.p, view_sl H.b, scalar_sl H.k, scalar_sl H.p, scalar_sl H.b, cells_sl H.k, cells_sl H.p, cells_sl H.b, pure_sl H.k, pure_sl H.p, pure_sl H.b, Int.toNat_natCast, c1, c2, decide_true, decide_false, gUn, Bool.true_or, Bool.false_or]
theorem huge_ok (H : HsIn h k p b) (hh : h.huge = false) : HsOk h k p b := by
  simp only [Hs.huge, Bool.or_eq_false_iff, decide_eq_false_iff_not] at hh
  exact ⟨H, by omega, by omega, by omega⟩
theorem pow_lt {n : Nat} (hn : n ≤ 4) : ∀ {i : Nat}, i ≤ 6 → 0 ≤ ((n : Int) + 1) ^ i ∧ ((n : Int) + 1) ^ i ≤ 15625 := by
  intro i hi
  have h1 := pow5_le (n := n + 1) (d := i) (by omega) hi
  have : (((n + 1) ^ i : Nat) : Int) = ((n : Int) + 1) ^ i := by push_cast; rfl
  omega
set_option maxHeartbeats 1000000 in
theorem s29 (H : HsIn h k p b) (st : Bool) : Iso E 29 [hsV h.fl k p b] st = some (Bo h.far) := by
  have a := fun st => s15 H st
  simp only [hsV] at a
  refine Iso_of (es _ _ _ _) e29 ?_
  simp only [f29, hsV, Hs.far]
  cases c : h.huge
  case true => simp (disch := first | assumption | omega | (simp only [az]; done)) only [ru, eq_self, if_true, if_false, BEq.rfl, binI, AO.row?, splice, fillL, mmAll, loadV, storeV, zeros, Am.rowAt, Am.part, addOff, Nat.reduceAdd, Nat.reduceMul, Nat.reduceLeDiff, Nat.reduceSub, Nat.reduceLT, Int.reduceEq, Int.reduceLT, Int.reduceLE, Int.reduceGT, Int.reduceGE, Int.reduceAdd, Int.reduceSub, Int.reduceMul, Int.reduceNeg, Int.reduceToNat, reduceCtorEq, reduceIte, lenV_sl H.k, lenV_sl H.p, lenV_sl H.b, elem_kd H.k, elem_pr H.p, elem_in H.b, view_sl H.k, view_sl H.p, view_sl H.b, scalar_sl H.k, scalar_sl H.p, scalar_sl H.b, cells_sl H.k, cells_sl H.p, cells_sl H.b, pure_sl H.k, pure_sl H.p, pure_sl H.b, Int.toNat_natCast, a, c, Bool.true_or]
  have O := huge_ok H c
  have a2 := fun st => s20 O st
  simp only [hsV, vE] at a2
  cases c2 : h.valid
  · simp only [c2] at a2
    simp (disch := first | assumption | omega | (simp only [az]; done)) only [ru, eq_self, if_true, if_false, BEq.rfl, binI, AO.row?, splice, fillL, mmAll, loadV, storeV, zeros, Am.rowAt, Am.part, addOff, Nat.reduceAdd, Nat.reduceMul, Nat.reduceLeDiff, Nat.reduceSub, Nat.reduceLT, Int.reduceEq, Int.reduceLT, Int.reduceLE, Int.reduceGT, Int.reduceGE, Int.reduceAdd, Int.reduceSub, Int.reduceMul, Int.reduceNeg, Int.reduceToNat, reduceCtorEq, reduceIte, lenV_sl H.k, lenV_sl H.p, lenV_sl H.b, elem_kd H.k, elem_pr H.p, elem_in H.b, view_sl H.k, view_sl H.p, view_sl H.b, scalar_sl H.k, scalar_sl H.p, scalar_sl H.b, cells_sl H.k, cells_sl H.p, cells_sl H.b, pure_sl H.k, pure_sl H.p, pure_sl H.b, Int.toNat_natCast, a, c, a2, decide_true, decide_false, Bool.not_false, Bool.false_and, Bool.false_or]
    done
  simp only [c2] at a2
  have G := valid_iff.1 c2
  have np := G.np; have nb := G.nb
  simp (disch := first | assumption | omega | (simp only [az]; done)) only [ru, eq_self, if_true, if_false, BEq.rfl, binI, AO.row?, splice, fillL, mmAll, loadV, storeV, zeros, Am.rowAt, Am.part, addOff, Nat.reduceAdd, Nat.reduceMul, Nat.reduceLeDiff, Nat.reduceSub, Nat.reduceLT, Int.reduceEq, Int.reduceLT, Int.reduceLE, Int.reduceGT, Int.reduceGE, Int.reduceAdd, Int.reduceSub, Int.reduceMul, Int.reduceNeg, Int.reduceToNat, reduceCtorEq, reduceIte, lenV_sl H.k, lenV_sl H.p, lenV_sl H.b, elem_kd H.k, elem_pr H.p, elem_in H.b, view_sl H.k, view_sl H.p, view_sl H.b, scalar_sl H.k, scalar_sl H.p, scalar_sl H.b, cells_sl H.k, cells_sl H.p, cells_sl H.b, pure_sl H.k, pure_sl H.p, pure_sl H.b, Int.toNat_natCast, a, c, a2, decide_true, decide_false, Bool.not_true]
  refine G_loop_ind (fun m ts hh mk => ∃ i : Nat, i ≤ h.ps.length ∧ m = h.ps.length - i ∧ ts.length = 25 ∧ ts.getD 1 .undef = .ptr 0 0 ∧ ts.getD 3 .undef = I (((h.bs.length : Int) + 1) ^ i) ∧ ts.getD 4 .undef = I i ∧ hh = [.cells [k, I h.fl, p, b] false] ∧ mk = []) ?_ _ _ _ _ ⟨0, Nat.zero_le _, rfl, rfl, rfl, by simp [lit], rfl, rfl, rfl⟩
  rintro m ts hh mk ih ⟨i, hi', rfl, hl', q1, q3, q4, rfl, rfl⟩
  rw [lit_all hl']
  simp only [lit0, litS, Nat.reduceAdd, q1, q3, q4]
  simp (disch := first | assumption | omega | (simp only [az]; done)) only [ru, eq_self, if_true, if_false, BEq.rfl, binI, AO.row?, splice, fillL, mmAll, loadV, storeV, zeros, Am.rowAt, Am.part, addOff, Nat.reduceAdd, Nat.reduceMul, Nat.reduceLeDiff, Nat.reduceSub, Nat.reduceLT, Int.reduceEq, Int.reduceLT, Int.reduceLE, Int.reduceGT, Int.reduceGE, Int.reduceAdd, Int.reduceSub, Int.reduceMul, Int.reduceNeg, Int.reduceToNat, reduceCtorEq, reduceIte, lenV_sl H.k, lenV_sl H.p, lenV_sl H.b, elem_kd H.k, elem_pr H.p, elem_in H.b, view_sl H.k, view_sl H.p, view_sl H.b, scalar_sl H.k, scalar_sl H.p, scalar_sl H.b, cells_sl H.k, cells_sl H.p, cells_sl H.b, pure_sl H.k, pure_sl H.p, pure_sl H.b, Int.toNat_natCast]
  by_cases hlt : (i : Int) < h.ps.length
  case pos =>
    have b1 := pow_lt nb (i := i) (by omega)
    have b2 := pow_lt nb (i := i + 1) (by omega)
    have e1 : ((h.bs.length : Int) + 1) ^ (i + 1) = ((h.bs.length : Int) + 1) ^ i * ((h.bs.length : Int) + 1) := Int.pow_succ _ _
    obtain ⟨z, hz⟩ : ∃ z, z = ((h.bs.length : Int) + 1) ^ i := ⟨_, rfl⟩
    rw [e1, ← hz] at b2
    rw [← hz] at b1 e1 ⊢
    obtain ⟨y, hy⟩ : ∃ y, y = z * ((h.bs.length : Int) + 1) := ⟨_, rfl⟩
    rw [← hy] at b2
    simp (disch := first | assumption | omega | (simp only [az]; done)) only [ru, eq_self, if_true, if_false, BEq.rfl, binI, AO.row?, splice, fillL, mmAll, loadV, storeV, zeros, Am.rowAt, Am.part, addOff, Nat.reduceAdd, Nat.reduceMul, Nat.reduceLeDiff, Nat.reduceSub, Nat.reduceLT, Int.reduceEq, Int.reduceLT, Int.reduceLE, Int.reduceGT, Int.reduceGE, Int.reduceAdd, Int.reduceSub, Int.reduceMul, Int.reduceNeg, Int.reduceToNat, reduceCtorEq, reduceIte, lenV_sl H.k, lenV_sl H.p, lenV_sl H.b, elem_kd H.k, elem_pr H.p, elem_in H.b, view_sl H.k, view_sl H.p, view_sl H.b, scalar_sl H.k, scalar_sl H.p, scalar_sl H.b, cells_sl H.k, cells_sl H.p, cells_sl H.b, pure_sl H.k, pure_sl H.p, pure_sl H.b, Int.toNat_natCast, hlt, ← hy]
    exact ih (h.ps.length - (i + 1)) _ _ _ (by omega) ⟨i + 1, by omega, rfl, rfl, rfl, by rw [e1, ← hy]; rfl, rfl, rfl, rfl⟩
  obtain rfl : i = h.ps.length := by omega
  obtain ⟨z, hz⟩ : ∃ z, z = ((h.bs.length : Int) + 1) ^ h.ps.length := ⟨_, rfl⟩
  rw [← hz]
  simp (disch := first | assumption | omega | (simp only [az]; done)) only [ru, eq_self, if_true, if_false, BEq.rfl, binI, AO.row?, splice, fillL, mmAll, loadV, storeV, zeros, Am.rowAt, Am.part, addOff, Nat.reduceAdd, Nat.reduceMul, Nat.reduceLeDiff, Nat.reduceSub, Nat.reduceLT, Int.reduceEq, Int.reduceLT, Int.reduceLE, Int.reduceGT, Int.reduceGE, Int.reduceAdd, Int.reduceSub, Int.reduceMul, Int.reduceNeg, Int.reduceToNat, reduceCtorEq, reduceIte, hlt, Bool.true_and, Bool.false_or]
theorem s46 (H : HsIn h k p b) (st : Bool) : Iso E 46 [hsV h.fl k p b] st = some (Bo h.rdy) := by
  have a := fun st => s29 H st
  simp only [hsV] at a
  refine Iso_of (es _ _ _ _) e46 ?_
  simp only [f46, hsV, Hs.rdy]
  cases c : h.far
  case true => simp (disch := first | assumption | omega | (simp only [az]; done)) only [ru, eq_self, if_true, if_false, BEq.rfl, binI, AO.row?, splice, fillL, mmAll, loadV, storeV, zeros, Am.rowAt, Am.part, addOff, Nat.reduceAdd, Nat.reduceMul, Nat.reduceLeDiff, Nat.reduceSub, Nat.reduceLT, Int.reduceEq, Int.reduceLT, Int.reduceLE, Int.reduceGT, Int.reduceGE, Int.reduceAdd, Int.reduceSub, Int.reduceMul, Int.reduceNeg, Int.reduceToNat, reduceCtorEq, reduceIte, lenV_sl H.k, lenV_sl H.p, lenV_sl H.b, elem_kd H.k, elem_pr H.p, elem_in H.b, view_sl H.k, view_sl H.p, view_sl H.b, scalar_sl H.k, scalar_sl H.p, scalar_sl H.b, cells_sl H.k, cells_sl H.p, cells_sl H.b, pure_sl H.k, pure_sl H.p, pure_sl H.b, Int.toNat_natCast, a, c, gUn, Bool.not_true, Bool.false_and]
  have c1 : h.huge = false := by
    cases e : h.huge with
    | false => rfl
    | true => simp [Hs.far, e] at c
  have a2 := fun st => s20 (huge_ok H c1) st
  simp only [hsV, vE] at a2
  cases c2 : h.valid
  all_goals
    simp only [c2] at a2
    simp (disch := first | assumption | omega | (simp only [az]; done)) only [ru, eq_self, if_true, if_false, BEq.rfl, binI, AO.row?, splice, fillL, mmAll, loadV, storeV, zeros, Am.rowAt, Am.part, addOff, Nat.reduceAdd, Nat.reduceMul, Nat.reduceLeDiff, Nat.reduceSub, Nat.reduceLT, Int.reduceEq, Int.reduceLT, Int.reduceLE, Int.reduceGT, Int.reduceGE, Int.reduceAdd, Int.reduceSub, Int.reduceMul, Int.reduceNeg, Int.reduceToNat, reduceCtorEq, reduceIte, lenV_sl H.k, lenV_sl H.p, lenV_sl H.b, elem_kd H.k, elem_pr H.p, elem_in H.b, view_sl H.k, view_sl H.p, view_sl H.b, scalar_sl H.k, scalar_sl H.p, scalar_sl H.b, cells_sl H.k, cells_sl H.p, cells_sl H.b, pure_sl H.k, pure_sl H.p, pure_sl H.b, Int.toNat_natCast, a, c, a2, gUn, Bool.not_false, Bool.true_and, decide_true, decide_false]
theorem rdy_iff : h.rdy = true ↔ HG h ∧ (((h.bs.length : Int) + 1) ^ h.ps.length) ≤ 700 := by
  rw [← valid_iff]
  simp only [Hs.rdy, Hs.far, Bool.and_eq_true, Bool.not_eq_true', Bool.or_eq_false_iff, Bool.and_eq_false_iff, decide_eq_false_iff_not]
  constructor
  · rintro ⟨⟨h1, h2⟩, h3⟩
    refine ⟨h3, ?_⟩
    rcases h2 with h2 | h2
    · rw [h3] at h2; cases h2
    · omega
  · rintro ⟨h1, h2⟩
    have G := valid_iff.1 h1
    have := G.nk; have := G.np; have := G.nb
    refine ⟨⟨?_, .inr (by omega)⟩, h1⟩
    simp only [Hs.huge, Bool.or_eq_false_iff, decide_eq_false_iff_not]
    omega
theorem rdy_ok (H : HsIn h k p b) (hr : h.rdy = true) : HsOk h k p b := by
  have G := (rdy_iff.1 hr).1
  exact ⟨H, by have := G.nk; omega, by have := G.np; omega, by have := G.nb; omega⟩
set_option maxHeartbeats 1000000 in
theorem s53 (H : HsOk h k p b) (G : HG h) (st : Bool) : Iso E 53 [hsV h.fl k p b] st = some (I h.all) := by
  have np := G.np
  refine Iso_of (es _ _ _ _) e53 ?_
  simp only [f53, hsV]
  simp (disch := first | assumption | omega | (simp only [az]; done)) only [ru, eq_self, if_true, if_false, BEq.rfl, binI, AO.row?, splice, fillL, mmAll, loadV, storeV, zeros, Am.rowAt, Am.part, addOff, Nat.reduceAdd, Nat.reduceMul, Nat.reduceLeDiff, Nat.reduceSub, Nat.reduceLT, Int.reduceEq, Int.reduceLT, Int.reduceLE, Int.reduceGT, Int.reduceGE, Int.reduceAdd, Int.reduceSub, Int.reduceMul, Int.reduceNeg, Int.reduceToNat, reduceCtorEq, reduceIte, lenV_sl H.k, lenV_sl H.p, lenV_sl H.b, elem_kd H.k, elem_pr H.p, elem_in H.b, view_sl H.k, view_sl H.p, view_sl H.b, scalar_sl H.k, scalar_sl H.p, scalar_sl H.b, cells_sl H.k, cells_sl H.p, cells_sl H.b, pure_sl H.k, pure_sl H.p, pure_sl H.b, Int.toNat_natCast]
  refine G_loop_ind (fun m ts hh mk => ∃ i : Nat, i ≤ h.ps.length ∧ m = h.ps.length - i ∧ ts.length = 21 ∧ ts.getD 1 .undef = .ptr 0 0 ∧ ts.getD 3 .undef = I (lbP (h.ps.take i)) ∧ ts.getD 4 .undef = I i ∧ hh = [.cells [k, I h.fl, p, b] false] ∧ mk = []) ?_ _ _ _ _ ⟨0, Nat.zero_le _, rfl, rfl, rfl, rfl, rfl, rfl, rfl⟩
  rintro m ts hh mk ih ⟨i, hi', rfl, hl', q1, q3, q4, rfl, rfl⟩
  rw [lit_all hl']
  simp only [lit0, litS, Nat.reduceAdd, q1, q3, q4]
  simp (disch := first | assumption | omega | (simp only [az]; done)) only [ru, eq_self, if_true, if_false, BEq.rfl, binI, AO.row?, splice, fillL, mmAll, loadV, storeV, zeros, Am.rowAt, Am.part, addOff, Nat.reduceAdd, Nat.reduceMul, Nat.reduceLeDiff, Nat.reduceSub, Nat.reduceLT, Int.reduceEq, Int.reduceLT, Int.reduceLE, Int.reduceGT, Int.reduceGE, Int.reduceAdd, Int.reduceSub, Int.reduceMul, Int.reduceNeg, Int.reduceToNat, reduceCtorEq, reduceIte, lenV_sl H.k, lenV_sl H.p, lenV_sl H.b, elem_kd H.k, elem_pr H.p, elem_in H.b, view_sl H.k, view_sl H.p, view_sl H.b, scalar_sl H.k, scalar_sl H.p, scalar_sl H.b, cells_sl H.k, cells_sl H.p, cells_sl H.b, pure_sl H.k, pure_sl H.p, pure_sl H.b, Int.toNat_natCast]
  by_cases hlt : (i : Int) < h.ps.length
  case pos =>
    have hi2 : i < h.ps.length := by omega
    have e1 : lbP (h.ps.take (i + 1)) = lbP (h.ps.take i) + (h.ps.getD i default).p := by rw [take_snoc (d := default) hi2, lbP_snoc]
    have b1 := lb_bd (G.pg.sub (l := h.ps.take i) fun q hq => List.mem_of_mem_take hq)
    have b2 := (G.q i hi2).2
    rw [List.length_take] at b1
    obtain ⟨z, hz⟩ : ∃ z, z = lbP (h.ps.take i) := ⟨_, rfl⟩
    obtain ⟨y, hy⟩ : ∃ y, y = h.ps.getD i default := ⟨_, rfl⟩
    rw [← hz, ← hy] at e1
    rw [← hz] at b1 ⊢
    rw [← hy] at b2
    simp (disch := first | assumption | omega | (simp only [az]; done)) only [ru, eq_self, if_true, if_false, BEq.rfl, binI, AO.row?, splice, fillL, mmAll, loadV, storeV, zeros, Am.rowAt, Am.part, addOff, Nat.reduceAdd, Nat.reduceMul, Nat.reduceLeDiff, Nat.reduceSub, Nat.reduceLT, Int.reduceEq, Int.reduceLT, Int.reduceLE, Int.reduceGT, Int.reduceGE, Int.reduceAdd, Int.reduceSub, Int.reduceMul, Int.reduceNeg, Int.reduceToNat, reduceCtorEq, reduceIte, lenV_sl H.k, lenV_sl H.p, lenV_sl H.b, elem_kd H.k, elem_pr H.p, elem_in H.b, view_sl H.k, view_sl H.p, view_sl H.b, scalar_sl H.k, scalar_sl H.p, scalar_sl H.b, cells_sl H.k, cells_sl H.p, cells_sl H.b, pure_sl H.k, pure_sl H.p, pure_sl H.b, Int.toNat_natCast, hlt, ← hy]
    exact ih (h.ps.length - (i + 1)) _ _ _ (by omega) ⟨i + 1, by omega, rfl, rfl, rfl, by rw [e1]; rfl, rfl, rfl, rfl⟩
  obtain rfl : i = h.ps.length := by omega
  have e : lbP (h.ps.take h.ps.length) = h.all := by rw [List.take_length]; rfl
  rw [e]
  simp (disch := first | assumption | omega | (simp only [az]; done)) only [ru, eq_self, if_true, if_false, BEq.rfl, binI, AO.row?, splice, fillL, mmAll, loadV, storeV, zeros, Am.rowAt, Am.part, addOff, Nat.reduceAdd, Nat.reduceMul, Nat.reduceLeDiff, Nat.reduceSub, Nat.reduceLT, Int.reduceEq, Int.reduceLT, Int.reduceLE, Int.reduceGT, Int.reduceGE, Int.reduceAdd, Int.reduceSub, Int.reduceMul, Int.reduceNeg, Int.reduceToNat, reduceCtorEq, reduceIte, hlt]
theorem fin4 {lim i j k l : Nat} {P : AV → List AO → Prop} {ts : List AV} {h : List AO} : Done lim [.tmp i, .tmp j, .tmp k, .tmp l] P .ret ⟨ts, h, []⟩ = P (.tup [ts.getD i .undef, ts.getD j .undef, ts.getD k .undef, ts.getD l .undef]) h := by
  simp [Done, finish, takeMarks, getRes]
/-! the specification's rest -/
def ansB (e : Int) (a b c : Int) : AV := .tup [I (if e = 0 then a else 0), I (if e = 0 then b else 0), I (if e = 0 then c else 0), I e]
/-! what is bought -/
def buyF (h : Hs) (n : Nat) : Option Nat := (List.range n).find? fun s => decide ((h.more s).pk ≠ [])
theorem more_G (G : HG h) (hb : h.bs.length < 4) {s : Int} (hs : 0 ≤ s ∧ s ≤ 99) : HG (h.more s) where
  nk := G.nk
  np := G.np
  nb := by simp [Hs.more]; omega
  g := G.g
  q := G.q
  b := by
    intro i hi
    have hi' : i < h.bs.length + 1 := by simpa [Hs.more] using hi
    show 0 ≤ (h.bs ++ [s]).getD i 0 ∧ (h.bs ++ [s]).getD i 0 ≤ 99
    by_cases e : i < h.bs.length
    · rw [List.getD_eq_getElem?_getD, List.getElem?_append_left e, ← List.getD_eq_getElem?_getD]; exact G.b i e
    · obtain rfl : i = h.bs.length := by omega
      simpa [List.getD_eq_getElem?_getD] using hs
/-- what is bought, and the error -/
def buyN (h : Hs) : Int := match buyF h 100 with | some s => s | none => 0
def buyE (h : Hs) : Int := if h.valid then (if h.pk ≠ [] then 0 else if h.bs.length = 4 then 2 else if (buyF h 100).isSome then 0 else 3) else 80
def buyV (h : Hs) : AV := .tup [I (if h.valid && decide (h.pk = []) && decide (h.bs.length ≠ 4) then buyN h else 0), I (buyE h)]
end
end Go.Proofs.Ytcdedbpmjhjehaa.S

/-
The program's loads of barrels.
-/
namespace Go.Proofs.Ytcdedbpmjhjehaa.S
open Go Go.Am Go.Proofs.Ytcdedbpmjhjehaa.T
set_option maxRecDepth 100000
set_option linter.unusedSimpArgs false
set_option linter.unusedVariables false

/-! rows of numbers -/
def IvL (z : List AV) : Prop := ∀ y ∈ z, ∃ k i, y = .int k i
theorem iv_sc {z : List AV} (h : IvL z) : z.all AV.scalar = true := by
  rw [List.all_eq_true]; intro y hy; obtain ⟨k, i, rfl⟩ := h y hy; rfl
theorem iv_view {z : List AV} (h : IvL z) {st : Bool} {g : List AO} {n : Nat} : z.mapM (view st g n) = some z := mapM_view fun y hy => by
  obtain ⟨k, i, rfl⟩ := h y hy; exact view_int
theorem iv_pure {z : List AV} (h : IvL z) : AV.pureV.go z = true := by
  induction z with
  | nil => rfl
  | cons a z ih =>
    obtain ⟨k, i, e⟩ := h a (by simp)
    subst e
    rw [AV.pureV.go, ih fun y hy => h y (by simp [hy])]; rfl
theorem fl_get {k : Nat} : ∀ {L : List (List AV)} {i : Nat}, (∀ r ∈ L, r.length = k) → i < L.length → (L.flatten.drop (i * k)).take k = L.getD i []
  | [], i, _, h => by simp at h
  | a :: L, 0, hk, _ => by
    have := hk a (by simp)
    simp only [Nat.zero_mul, List.drop_zero, List.flatten_cons]
    rw [← this, List.take_left]; rfl
  | a :: L, i + 1, hk, h => by
    have ha := hk a (by simp)
    have ih := fl_get (k := k) (L := L) (i := i) (fun r hr => hk r (by simp [hr])) (by simpa using h)
    rw [List.flatten_cons, show (i + 1) * k = a.length + i * k by rw [Nat.succ_mul, ha]; omega, List.drop_append, List.drop_of_length_le (by omega), List.nil_append, show a.length + i * k - a.length = i * k by omega, ih]
    rfl
theorem fl_put {k : Nat} {x : List AV} (hx : x.length = k) : ∀ {L : List (List AV)} {i : Nat}, (∀ r ∈ L, r.length = k) → i < L.length → L.flatten.take (i * k) ++ (x ++ L.flatten.drop (i * k + k)) = (L.set i x).flatten
  | [], i, _, h => by simp at h
  | a :: L, 0, hk, _ => by
    have := hk a (by simp)
    simp only [Nat.zero_mul, List.take_zero, List.nil_append, Nat.zero_add, List.flatten_cons, List.set_cons_zero]
    rw [← this, List.drop_left]
  | a :: L, i + 1, hk, h => by
    have ha := hk a (by simp)
    have ih := fl_put hx (L := L) (i := i) (fun r hr => hk r (by simp [hr])) (by simpa using h)
    have e1 : (i + 1) * k = a.length + i * k := by rw [Nat.succ_mul, ha]; omega
    rw [List.flatten_cons, List.set_cons_succ, List.flatten_cons, ← ih, e1, Nat.add_assoc, List.take_append, List.drop_append, List.take_of_length_le (by omega), List.drop_of_length_le (by omega), List.append_assoc]
    rw [show a.length + i * k - a.length = i * k by omega, show a.length + (i * k + k) - a.length = i * k + k by omega, List.nil_append]

/-- what some parts are together -/
def ldc (ks : List Kd) (l : List Pr) : List AV := [I l.length, I (lbP l), I (stP ks l), I (dyP ks l)]
theorem ldc_iv {ks : List Kd} {l : List Pr} : IvL (ldc ks l) := by simp [IvL, ldc]
/-- four rows: the loads of all barrels -/
def r4 (F : Nat → List AV) : List AV := ((List.range 4).map F).flatten
def lds (h : Hs) (x : List Int) : List AV := r4 fun b => ldc h.ks (prs h.ps x b)
theorem r4_len {F : Nat → List AV} (hl : ∀ p, (F p).length = 4) : (r4 F).length = 16 := by
  simp only [r4, List.length_flatten, List.map_map]
  rw [show List.map (List.length ∘ F) (List.range 4) = List.map (fun _ => 4) (List.range 4) from List.map_congr_left fun p _ => hl p]
  rfl
theorem r4_get {F : Nat → List AV} {i : Nat} (h : i < 4) (hl : ∀ p, (F p).length = 4) : ((r4 F).drop (i * 4)).take 4 = F i := by
  unfold r4
  rw [fl_get (by intro r hr; obtain ⟨p, _, rfl⟩ := List.mem_map.1 hr; exact hl p) (by simpa using h)]
  simp [List.getD_eq_getElem?_getD, h]
theorem r4_put {F F' : Nat → List AV} {i : Nat} (h : i < 4) (hl : ∀ p, (F p).length = 4) {x : List AV} (hx : x.length = 4) (he : ∀ p, F' p = if p = i then x else F p) : (r4 F).take (i * 4) ++ (x ++ (r4 F).drop (i * 4 + 4)) = r4 F' := by
  unfold r4
  rw [fl_put hx (by intro r hr; obtain ⟨p, _, rfl⟩ := List.mem_map.1 hr; exact hl p) (by simpa using h)]
  congr 1
  refine List.ext_getElem (by simp) fun k h1 h2 => ?_
  simp only [List.getElem_set, List.getElem_map, List.getElem_range, he]
  by_cases e : i = k
  · subst e; simp
  · rw [if_neg e, if_neg (fun h => e h.symm)]
theorem r4_iv {F : Nat → List AV} (h : ∀ p, IvL (F p)) : IvL (r4 F) := by
  intro y hy
  simp only [r4, List.mem_flatten, List.mem_map] at hy
  obtain ⟨_, ⟨p, _, rfl⟩, hy⟩ := hy
  exact h p y hy
section
variable {h : Hs} {k p b : AV}
theorem lds_len {x : List Int} : (lds h x).length = 16 := r4_len fun _ => rfl
theorem lds_iv {x : List Int} : IvL (lds h x) := r4_iv fun _ => ldc_iv
theorem lds_get {x : List Int} {i : Nat} (hi : i < 4) : ((lds h x).drop (i * 4)).take 4 = ldc h.ks (prs h.ps x i) := r4_get hi fun _ => rfl
theorem lds_put {x : List Int} {i : Nat} (hi : i < 4) (hx : x.length < h.ps.length) : (lds h x).take (i * 4) ++ (ldc h.ks (prs h.ps (x ++ [(i : Int)]) i) ++ (lds h x).drop (i * 4 + 4)) = lds h (x ++ [(i : Int)]) := by
  refine r4_put hi (fun _ => rfl) rfl fun q => ?_
  by_cases e : q = i
  · subst e; rw [if_pos rfl]
  · rw [if_neg e, prs_snoc hx, if_neg (by omega), List.append_nil]
theorem lds_nil : lds h [] = List.replicate 16 (I 0) := by
  simp only [lds, r4, prs, List.zip_nil_right, List.filter_nil, List.map_nil]
  rfl

set_option maxHeartbeats 2000000 in
theorem s69 (H : HsOk h k p b) (G : HG h) {l0 : List Pr} (P0 : PG l0) (hl0 : l0.length ≤ 1000) {l : List Int} {v : AV} (V : IsSl 1 intL l v) (hl : l.length ≤ 1000) (L : InP h l) (st : Bool) :
    Iso E 69 [hsV h.fl k p b, .agg (ldc h.ks l0), v] st = some (.agg (ldc h.ks (l0 ++ h.pts l))) := by
  refine Iso_of (es _ _ _ _) e69 ?_
  simp only [f69, hsV, ldc]
  simp (disch := first | assumption | omega | (simp only [az]; done)) only [ru, eq_self, if_true, if_false, BEq.rfl, binI, AO.row?, splice, fillL, mmAll, loadV, storeV, zeros, Am.rowAt, Am.part, addOff, Nat.reduceAdd, Nat.reduceMul, Nat.reduceLeDiff, Nat.reduceSub, Nat.reduceLT, Int.reduceEq, Int.reduceLT, Int.reduceLE, Int.reduceGT, Int.reduceGE, Int.reduceAdd, Int.reduceSub, Int.reduceMul, Int.reduceNeg, Int.reduceToNat, reduceCtorEq, reduceIte, lenV_sl H.k, lenV_sl H.p, lenV_sl H.b, elem_kd H.k, elem_pr H.p, elem_in H.b, view_sl H.k, view_sl H.p, view_sl H.b, scalar_sl H.k, scalar_sl H.p, scalar_sl H.b, cells_sl H.k, cells_sl H.p, cells_sl H.b, pure_sl H.k, pure_sl H.p, pure_sl H.b, Int.toNat_natCast, lenV_sl V, elem_in V, view_sl V, scalar_sl V, cells_sl V, pure_sl V, Int.toNat_natCast]
  refine G_loop_ind (fun m ts hh mk => ∃ (i : Nat) (J : List AO) (cc : List AV), i ≤ l.length ∧ m = l.length - i ∧ ts.length = 52 ∧ ts.getD 2 .undef = v ∧ ts.getD 3 .undef = .ptr 0 0 ∧ ts.getD 4 .undef = .ptr 1 0 ∧ ts.getD 6 .undef = .ptr 2 0 ∧ ts.getD 11 .undef = v ∧ ts.getD 12 .undef = I l.length ∧ ts.getD 13 .undef = I i ∧
      hh = .cells [k, I h.fl, p, b] false :: .cells cc false :: .cells [I 0, I 0, I 0, I 0] false :: J ∧ mk = [] ∧ cc = ldc h.ks (l0 ++ h.pts (l.take i))) ?_ _ _ _ _
    ⟨0, [], _, Nat.zero_le _, rfl, rfl, rfl, rfl, rfl, rfl, rfl, rfl, rfl, rfl, rfl, by rw [List.take_zero, show h.pts [] = [] from rfl, List.append_nil]; rfl⟩
  rintro m ts hh mk ih ⟨i, J, cc, hi', rfl, hl', q2, q3, q4, q6, q11, q12, q13, rfl, rfl, rfl⟩
  rw [lit_all hl']
  simp only [lit0, litS, Nat.reduceAdd, q2, q3, q4, q6, q11, q12, q13]
  simp (disch := first | assumption | omega | (simp only [az]; done)) only [ru, eq_self, if_true, if_false, BEq.rfl, binI, AO.row?, splice, fillL, mmAll, loadV, storeV, zeros, Am.rowAt, Am.part, addOff, Nat.reduceAdd, Nat.reduceMul, Nat.reduceLeDiff, Nat.reduceSub, Nat.reduceLT, Int.reduceEq, Int.reduceLT, Int.reduceLE, Int.reduceGT, Int.reduceGE, Int.reduceAdd, Int.reduceSub, Int.reduceMul, Int.reduceNeg, Int.reduceToNat, reduceCtorEq, reduceIte, lenV_sl V, elem_in V, view_sl V, scalar_sl V, cells_sl V, pure_sl V, Int.toNat_natCast]
  by_cases hlt : (i : Int) < l.length
  case pos =>
    have hi2 : i < l.length := by omega
    have hx := L i hi2
    have hk := inP_k G L hi2
    have PX : PG (l0 ++ h.pts (l.take (i + 1))) := by
      intro q hq
      rcases List.mem_append.1 hq with hq | hq
      · exact P0 q hq
      · exact pts_pg G _ q hq
    have PY : PG (l0 ++ h.pts (l.take i)) := by
      intro q hq
      rcases List.mem_append.1 hq with hq | hq
      · exact P0 q hq
      · exact pts_pg G _ q hq
    obtain ⟨x, ex⟩ : ∃ x, x = l.getD i 0 := ⟨_, rfl⟩
    have et : l0 ++ h.pts (l.take (i + 1)) = l0 ++ h.pts (l.take i) ++ [h.ps.getD x.toNat default] := by
      rw [take_snoc (d := 0) hi2, pts_snoc, ← ex, List.append_assoc]
    have tl := List.length_take_of_le (show i ≤ l.length by omega)
    have b1 := lb_bd PY
    have b3 := lb_bd PX
    have bl : (l0 ++ h.pts (l.take i)).length = l0.length + i := by rw [List.length_append, pts_len, tl]
    rw [et, lbP_snoc, List.length_append, bl, List.length_singleton] at b3
    have en : (l0 ++ h.pts (l.take (i + 1))).length = (l0 ++ h.pts (l.take i)).length + 1 := by rw [et, List.length_append]; rfl
    have e1 : lbP (l0 ++ h.pts (l.take (i + 1))) = lbP (l0 ++ h.pts (l.take i)) + (h.ps.getD x.toNat default).p := by rw [et, lbP_snoc]
    have e2 : stP h.ks (l0 ++ h.pts (l.take (i + 1))) = mx (stP h.ks (l0 ++ h.pts (l.take i))) (kdP h.ks (h.ps.getD x.toNat default)).s := by rw [et, stP_snoc]
    have e3 : dyP h.ks (l0 ++ h.pts (l.take (i + 1))) = mx (dyP h.ks (l0 ++ h.pts (l.take i))) (kdP h.ks (h.ps.getD x.toNat default)).d := by rw [et, dyP_snoc]
    rw [← ex] at hx hk
    have eg : ldc h.ks (l0 ++ h.pts (l.take (i + 1))) = [I (l0 ++ h.pts (l.take (i + 1))).length, I (lbP (l0 ++ h.pts (l.take (i + 1)))), I (stP h.ks (l0 ++ h.pts (l.take (i + 1)))), I (dyP h.ks (l0 ++ h.pts (l.take (i + 1))))] := rfl
    rw [en, e1, e2, e3] at eg
    simp only [ldc]
    obtain ⟨n, hn⟩ : ∃ n, n = (l0 ++ h.pts (l.take i)).length := ⟨_, rfl⟩
    obtain ⟨z, hz⟩ : ∃ z, z = lbP (l0 ++ h.pts (l.take i)) := ⟨_, rfl⟩
    obtain ⟨u, hu⟩ : ∃ u, u = stP h.ks (l0 ++ h.pts (l.take i)) := ⟨_, rfl⟩
    obtain ⟨w, hw⟩ : ∃ w, w = dyP h.ks (l0 ++ h.pts (l.take i)) := ⟨_, rfl⟩
    obtain ⟨y, hy⟩ : ∃ y, y = h.ps.getD x.toNat default := ⟨_, rfl⟩
    rw [← hy] at hk
    rw [← hz, ← hy] at b3
    rw [← hz, ← hn] at b1
    rw [← hn] at bl
    rw [← hz, ← hn, ← hu, ← hw, ← hy] at eg
    rw [← hz, ← hn, ← hu, ← hw]
    obtain ⟨c, hc⟩ : ∃ c, c = kdP h.ks y := ⟨_, rfl⟩
    have hc' : h.ks.getD y.k.toNat default = c := hc.symm
    rw [← hc] at eg
    have x0 := hx.1; have x1 := hx.2
    have k0 := hk.1; have k1 := hk.2
    simp (disch := first | assumption | omega | (simp only [az]; done)) only [ru, eq_self, if_true, if_false, BEq.rfl, binI, AO.row?, splice, fillL, mmAll, loadV, storeV, zeros, Am.rowAt, Am.part, addOff, Nat.reduceAdd, Nat.reduceMul, Nat.reduceLeDiff, Nat.reduceSub, Nat.reduceLT, Int.reduceEq, Int.reduceLT, Int.reduceLE, Int.reduceGT, Int.reduceGE, Int.reduceAdd, Int.reduceSub, Int.reduceMul, Int.reduceNeg, Int.reduceToNat, reduceCtorEq, reduceIte, lenV_sl H.k, lenV_sl H.p, lenV_sl H.b, elem_kd H.k, elem_pr H.p, elem_in H.b, view_sl H.k, view_sl H.p, view_sl H.b, scalar_sl H.k, scalar_sl H.p, scalar_sl H.b, cells_sl H.k, cells_sl H.p, cells_sl H.b, pure_sl H.k, pure_sl H.p, pure_sl H.b, Int.toNat_natCast, lenV_sl V, elem_in V, view_sl V, scalar_sl V, cells_sl V, pure_sl V, Int.toNat_natCast, hlt, ← ex, x0, x1, ← hy, k0, k1, hc']
    exact ih (l.length - (i + 1)) _ _ _ (by omega) ⟨i + 1, _, _, by omega, rfl, rfl, rfl, rfl, rfl, rfl, rfl, rfl, rfl, rfl, rfl, by rw [eg]; rfl⟩
  obtain rfl : i = l.length := by omega
  rw [List.take_length]
  simp only [ldc]
  simp (disch := first | assumption | omega | (simp only [az]; done)) only [ru, eq_self, if_true, if_false, BEq.rfl, binI, AO.row?, splice, fillL, mmAll, loadV, storeV, zeros, Am.rowAt, Am.part, addOff, Nat.reduceAdd, Nat.reduceMul, Nat.reduceLeDiff, Nat.reduceSub, Nat.reduceLT, Int.reduceEq, Int.reduceLT, Int.reduceLE, Int.reduceGT, Int.reduceGE, Int.reduceAdd, Int.reduceSub, Int.reduceMul, Int.reduceNeg, Int.reduceToNat, reduceCtorEq, reduceIte, hlt, finC, getRes, Option.some.injEq, exists_eq_left']
theorem s68 (H : HsOk h k p b) (G : HG h) {l : List Pr} (P : PG l) (hl : l.length ≤ 1000) (st : Bool) : Iso E 68 [hsV h.fl k p b, .agg (ldc h.ks l)] st = some (I (slP h.ks h.fl l)) := by
  refine Iso_of (es _ _ _ _) e68 ?_
  simp only [f68, hsV, ldc, slP]
  by_cases h0 : l.length = 0
  · have h0' : (l.length : Int) = 0 := by omega
    simp (disch := first | assumption | omega | (simp only [az]; done)) only [ru, eq_self, if_true, if_false, BEq.rfl, binI, AO.row?, splice, fillL, mmAll, loadV, storeV, zeros, Am.rowAt, Am.part, addOff, Nat.reduceAdd, Nat.reduceMul, Nat.reduceLeDiff, Nat.reduceSub, Nat.reduceLT, Int.reduceEq, Int.reduceLT, Int.reduceLE, Int.reduceGT, Int.reduceGE, Int.reduceAdd, Int.reduceSub, Int.reduceMul, Int.reduceNeg, Int.reduceToNat, reduceCtorEq, reduceIte, lenV_sl H.k, lenV_sl H.p, lenV_sl H.b, elem_kd H.k, elem_pr H.p, elem_in H.b, view_sl H.k, view_sl H.p, view_sl H.b, scalar_sl H.k, scalar_sl H.p, scalar_sl H.b, cells_sl H.k, cells_sl H.p, cells_sl H.b, pure_sl H.k, pure_sl H.p, pure_sl H.b, Int.toNat_natCast, h0, h0', decide_true]
    done
  have h0' : ¬ (l.length : Int) = 0 := by omega
  have b1 := lb_bd P
  have b2 := st_bd G.g l
  have b3 : lbP l * stP h.ks l ≤ (40 * l.length) * 9 := Int.mul_le_mul b1.2 b2.2 b2.1 (by omega)
  have b4 : 0 ≤ lbP l * stP h.ks l := Int.mul_nonneg b1.1 b2.1
  have b5 := G.g.f
  obtain ⟨z, hz⟩ : ∃ z, z = lbP l * stP h.ks l := ⟨_, rfl⟩
  have e5 : (z + 9).tdiv 10 = (z + 9) / 10 := Int.tdiv_eq_ediv_of_nonneg (by omega)
  rw [← hz] at b3 b4
  simp (disch := first | assumption | omega | (simp only [az]; done)) only [ru, eq_self, if_true, if_false, BEq.rfl, binI, AO.row?, splice, fillL, mmAll, loadV, storeV, zeros, Am.rowAt, Am.part, addOff, Nat.reduceAdd, Nat.reduceMul, Nat.reduceLeDiff, Nat.reduceSub, Nat.reduceLT, Int.reduceEq, Int.reduceLT, Int.reduceLE, Int.reduceGT, Int.reduceGE, Int.reduceAdd, Int.reduceSub, Int.reduceMul, Int.reduceNeg, Int.reduceToNat, reduceCtorEq, reduceIte, lenV_sl H.k, lenV_sl H.p, lenV_sl H.b, elem_kd H.k, elem_pr H.p, elem_in H.b, view_sl H.k, view_sl H.p, view_sl H.b, scalar_sl H.k, scalar_sl H.p, scalar_sl H.b, cells_sl H.k, cells_sl H.p, cells_sl H.b, pure_sl H.k, pure_sl H.p, pure_sl H.b, Int.toNat_natCast, h0, h0', ← hz, e5, Int.reduceEq, decide_false]
theorem s111 (H : HsOk h k p b) (G : HG h) {l : List Pr} (P : PG l) (hl : l.length ≤ 1000) (st : Bool) : Iso E 111 [hsV h.fl k p b, .agg (ldc h.ks l)] st = some (I (ndP h.ks h.fl l)) := by
  have a := fun st => s68 H G P hl st
  simp only [hsV, ldc] at a
  have b1 := lb_bd P
  have b2 := sl_bd G.g P
  refine Iso_of (es _ _ _ _) e111 ?_
  simp only [f111, hsV, ldc, ndP]
  simp (disch := first | assumption | omega | (simp only [az]; done)) only [ru, eq_self, if_true, if_false, BEq.rfl, binI, AO.row?, splice, fillL, mmAll, loadV, storeV, zeros, Am.rowAt, Am.part, addOff, Nat.reduceAdd, Nat.reduceMul, Nat.reduceLeDiff, Nat.reduceSub, Nat.reduceLT, Int.reduceEq, Int.reduceLT, Int.reduceLE, Int.reduceGT, Int.reduceGE, Int.reduceAdd, Int.reduceSub, Int.reduceMul, Int.reduceNeg, Int.reduceToNat, reduceCtorEq, reduceIte, lenV_sl H.k, lenV_sl H.p, lenV_sl H.b, elem_kd H.k, elem_pr H.p, elem_in H.b, view_sl H.k, view_sl H.p, view_sl H.b, scalar_sl H.k, scalar_sl H.p, scalar_sl H.b, cells_sl H.k, cells_sl H.p, cells_sl H.b, pure_sl H.k, pure_sl H.p, pure_sl H.b, Int.toNat_natCast, a]
end
end Go.Proofs.Ytcdedbpmjhjehaa.S

/-
The program: a part more, what a list lays down, what loads come to.
-/
namespace Go.Proofs.Ytcdedbpmjhjehaa.S
open Go Go.Am Go.Proofs.Ytcdedbpmjhjehaa.T
set_option maxRecDepth 100000
set_option linter.unusedSimpArgs false
set_option linter.unusedVariables false

section
variable {h : Hs} {k p b : AV}
theorem prs_le (G : HG h) (x : List Int) (c : Int) : (prs h.ps x c).length ≤ 6 := Nat.le_trans prs_len G.np
set_option maxHeartbeats 2000000 in
theorem s97 (H : HsOk h k p b) (G : HG h) {x : List Int} (hx : x.length < h.ps.length) {c : Nat} (hc : c < h.bs.length) (st : Bool) :
    Iso E 97 [hsV h.fl k p b, .agg (lds h x), I x.length, I c] st = some (.tup [.agg (lds h (x ++ [(c : Int)])), Bo (decide (ndP h.ks h.fl (prs h.ps (x ++ [(c : Int)]) c) ≤ h.bs.getD c 0))]) := by
  have np := G.np; have nb := G.nb
  have L1 : InP h [(x.length : Int)] := by
    intro i hi
    have hi0 : i = 0 := by simp at hi; omega
    subst hi0
    show (0 : Int) ≤ (x.length : Int) ∧ (x.length : Int) < h.ps.length
    omega
  have a1 := fun st => s69 H G (G.pp x c) (by have := prs_le G x c; omega) (v := .cs 1 1 [I (x.length : Int)]) (l := [(x.length : Int)]) (.inl rfl) (by simp) L1 st
  have ep : prs h.ps x c ++ h.pts [(x.length : Int)] = prs h.ps (x ++ [(c : Int)]) c := by
    rw [prs_snoc hx, if_pos rfl]; rfl
  rw [ep] at a1
  have a2 := fun st => s111 H G (G.pp (x ++ [(c : Int)]) c) (by have := prs_le G (x ++ [(c : Int)]) c; omega) st
  have g0 := lds_get (h := h) (x := x) (i := c) (by omega)
  have g1 := lds_put (h := h) (x := x) (i := c) (by omega) hx
  have g2 := lds_get (h := h) (x := x ++ [(c : Int)]) (i := c) (by omega)
  have ll := lds_len (h := h) (x := x)
  have ll' := lds_len (h := h) (x := x ++ [(c : Int)])
  have iv := lds_iv (h := h) (x := x)
  have iv' := lds_iv (h := h) (x := x ++ [(c : Int)])
  simp only [hsV] at a1 a2
  obtain ⟨A, hA⟩ : ∃ A, A = ldc h.ks (prs h.ps x c) := ⟨_, rfl⟩
  obtain ⟨B, hB⟩ : ∃ B, B = ldc h.ks (prs h.ps (x ++ [(c : Int)]) c) := ⟨_, rfl⟩
  obtain ⟨Z, hZ⟩ : ∃ Z, Z = lds h x := ⟨_, rfl⟩
  obtain ⟨Y, hY⟩ : ∃ Y, Y = lds h (x ++ [(c : Int)]) := ⟨_, rfl⟩
  have Al : A.length = 4 := by rw [hA]; rfl
  have Bl : B.length = 4 := by rw [hB]; rfl
  have Ai : IvL A := by rw [hA]; exact ldc_iv
  have Bi : IvL B := by rw [hB]; exact ldc_iv
  rw [← hA, ← hB] at a1
  rw [← hB] at a2
  rw [← hZ, ← hA] at g0
  rw [← hZ, ← hY, ← hB] at g1
  rw [← hY, ← hB] at g2
  rw [← hZ] at ll iv
  rw [← hY] at ll' iv'
  rw [← hZ, ← hY]
  have tk : Y.take 16 = Y := List.take_of_length_le (by omega)
  have tkA : A.take 4 = A := List.take_of_length_le (by omega)
  obtain ⟨y, hy⟩ : ∃ y, y = h.bs.getD c 0 := ⟨_, rfl⟩
  obtain ⟨w, hw⟩ : ∃ w, w = ndP h.ks h.fl (prs h.ps (x ++ [(c : Int)]) c) := ⟨_, rfl⟩
  rw [← hw] at a2
  rw [← hy, ← hw]
  have c0 : (0 : Int) ≤ c := by omega
  have c4 : (c : Int) < 4 := by omega
  have cb : (c : Int) < h.bs.length := by omega
  have fit : c * 4 + 4 ≤ 16 := by omega
  have n02 : ((0 : Nat) != 2) = true := rfl
  refine Iso_of (es _ _ _ _) e97 ?_
  simp only [f97, hsV]
  simp (disch := first | assumption | omega | (simp only [az]; done)) only [ru, eq_self, if_true, if_false, BEq.rfl, binI, AO.row?, splice, fillL, mmAll, loadV, storeV, zeros, Am.rowAt, Am.part, addOff, Nat.reduceAdd, Nat.reduceMul, Nat.reduceLeDiff, Nat.reduceSub, Nat.reduceLT, Int.reduceEq, Int.reduceLT, Int.reduceLE, Int.reduceGT, Int.reduceGE, Int.reduceAdd, Int.reduceSub, Int.reduceMul, Int.reduceNeg, Int.reduceToNat, reduceCtorEq, reduceIte, lenV_sl H.k, lenV_sl H.p, lenV_sl H.b, elem_kd H.k, elem_pr H.p, elem_in H.b, view_sl H.k, view_sl H.p, view_sl H.b, scalar_sl H.k, scalar_sl H.p, scalar_sl H.b, cells_sl H.k, cells_sl H.p, cells_sl H.b, pure_sl H.k, pure_sl H.p, pure_sl H.b, Int.toNat_natCast, rmr, exOp_litS, exOp_loadR, exOp_storeR, objIs, objNot, BEq.rfl, n02, c0, c4, cb, g0, Al, Bl, ll, ll', fit, iv_sc Bi, iv_sc iv', iv_view Ai, iv_view Bi, iv_view iv, iv_view iv', iv_pure Ai, iv_pure Bi, iv_pure iv', a1, g1, g2, tk, tkA, a2, ← hy, objNotA, List.all_cons, List.all_nil, finC2, getRes, Option.some.injEq, exists_eq_left', AV.pureV.go, AV.pureV, Bool.and_true, List.append_assoc]
theorem s67 (H : HsOk h k p b) {l : List Int} {v : AV} (V : IsSl 1 intL l v) (hl : l.length ≤ 1000) (st : Bool) : Iso E 67 [hsV h.fl k p b, v] st = some (Bo (risB l 0 (h.ps.length - 1))) := by
  have a := fun n st => s80 H n st
  simp only [hsV] at a
  refine Iso_of (es _ _ _ _) e67 ?_
  simp only [f67, hsV]
  simp (disch := first | assumption | omega | (simp only [az]; done)) only [ru, eq_self, if_true, if_false, BEq.rfl, binI, AO.row?, splice, fillL, mmAll, loadV, storeV, zeros, Am.rowAt, Am.part, addOff, Nat.reduceAdd, Nat.reduceMul, Nat.reduceLeDiff, Nat.reduceSub, Nat.reduceLT, Int.reduceEq, Int.reduceLT, Int.reduceLE, Int.reduceGT, Int.reduceGE, Int.reduceAdd, Int.reduceSub, Int.reduceMul, Int.reduceNeg, Int.reduceToNat, reduceCtorEq, reduceIte, lenV_sl H.k, lenV_sl H.p, lenV_sl H.b, elem_kd H.k, elem_pr H.p, elem_in H.b, view_sl H.k, view_sl H.p, view_sl H.b, scalar_sl H.k, scalar_sl H.p, scalar_sl H.b, cells_sl H.k, cells_sl H.p, cells_sl H.b, pure_sl H.k, pure_sl H.p, pure_sl H.b, Int.toNat_natCast, lenV_sl V, elem_in V, view_sl V, scalar_sl V, cells_sl V, pure_sl V, Int.toNat_natCast]
  refine G_loop_ind (fun m ts hh mk => ∃ i : Nat, i ≤ l.length ∧ m = l.length - i ∧ ((List.range i).all fun i => inR (l.getD i 0) 0 (h.ps.length - 1) && (decide (i = 0) || decide (l.getD (i - 1) 0 < l.getD i 0))) = true ∧ ts.length = 32 ∧ ts.getD 1 .undef = v ∧ ts.getD 2 .undef = .ptr 0 0 ∧ ts.getD 7 .undef = v ∧ ts.getD 8 .undef = I l.length ∧ ts.getD 9 .undef = I i ∧ hh = [.cells [k, I h.fl, p, b] false] ∧ mk = []) ?_ _ _ _ _ ⟨0, Nat.zero_le _, rfl, rfl, rfl, rfl, rfl, rfl, rfl, rfl, rfl, rfl⟩
  rintro m ts hh mk ih ⟨i, hi', rfl, hall, hl', q1, q2, q7, q8, q9, rfl, rfl⟩
  rw [lit_all hl']
  simp only [lit0, litS, Nat.reduceAdd, q1, q2, q7, q8, q9]
  simp (disch := first | assumption | omega | (simp only [az]; done)) only [ru, eq_self, if_true, if_false, BEq.rfl, binI, AO.row?, splice, fillL, mmAll, loadV, storeV, zeros, Am.rowAt, Am.part, addOff, Nat.reduceAdd, Nat.reduceMul, Nat.reduceLeDiff, Nat.reduceSub, Nat.reduceLT, Int.reduceEq, Int.reduceLT, Int.reduceLE, Int.reduceGT, Int.reduceGE, Int.reduceAdd, Int.reduceSub, Int.reduceMul, Int.reduceNeg, Int.reduceToNat, reduceCtorEq, reduceIte, lenV_sl V, elem_in V, view_sl V, scalar_sl V, cells_sl V, pure_sl V, Int.toNat_natCast]
  by_cases hlt : (i : Int) < l.length
  case neg =>
    obtain rfl : i = l.length := by omega
    have ev : risB l 0 (h.ps.length - 1) = true := hall
    simp (disch := first | assumption | omega | (simp only [az]; done)) only [ru, eq_self, if_true, if_false, BEq.rfl, binI, AO.row?, splice, fillL, mmAll, loadV, storeV, zeros, Am.rowAt, Am.part, addOff, Nat.reduceAdd, Nat.reduceMul, Nat.reduceLeDiff, Nat.reduceSub, Nat.reduceLT, Int.reduceEq, Int.reduceLT, Int.reduceLE, Int.reduceGT, Int.reduceGE, Int.reduceAdd, Int.reduceSub, Int.reduceMul, Int.reduceNeg, Int.reduceToNat, reduceCtorEq, reduceIte, hlt, ev]
  have hi2 : i < l.length := by omega
  have no := fun hp => range_not (N := l.length) (p := fun i => inR (l.getD i 0) 0 (h.ps.length - 1) && (decide (i = 0) || decide (l.getD (i - 1) 0 < l.getD i 0))) hi2 hp
  have nx := fun hp => range_all_succ (p := fun i => inR (l.getD i 0) 0 (h.ps.length - 1) && (decide (i = 0) || decide (l.getD (i - 1) 0 < l.getD i 0))) hall hp
  cases hc : inR (l.getD i 0) 0 (h.ps.length - 1)
  · have ev : risB l 0 (h.ps.length - 1) = false := no (by simp only [hc, Bool.false_and])
    simp (disch := first | assumption | omega | (simp only [az]; done)) only [ru, eq_self, if_true, if_false, BEq.rfl, binI, AO.row?, splice, fillL, mmAll, loadV, storeV, zeros, Am.rowAt, Am.part, addOff, Nat.reduceAdd, Nat.reduceMul, Nat.reduceLeDiff, Nat.reduceSub, Nat.reduceLT, Int.reduceEq, Int.reduceLT, Int.reduceLE, Int.reduceGT, Int.reduceGE, Int.reduceAdd, Int.reduceSub, Int.reduceMul, Int.reduceNeg, Int.reduceToNat, reduceCtorEq, reduceIte, lenV_sl H.k, lenV_sl H.p, lenV_sl H.b, elem_kd H.k, elem_pr H.p, elem_in H.b, view_sl H.k, view_sl H.p, view_sl H.b, scalar_sl H.k, scalar_sl H.p, scalar_sl H.b, cells_sl H.k, cells_sl H.p, cells_sl H.b, pure_sl H.k, pure_sl H.p, pure_sl H.b, Int.toNat_natCast, lenV_sl V, elem_in V, view_sl V, scalar_sl V, cells_sl V, pure_sl V, Int.toNat_natCast, hlt, a, hc, gUn, ev, Bool.not_false]
  by_cases h0 : i = 0
  · have hg : ¬ (i : Int) > 0 := by omega
    simp (disch := first | assumption | omega | (simp only [az]; done)) only [ru, eq_self, if_true, if_false, BEq.rfl, binI, AO.row?, splice, fillL, mmAll, loadV, storeV, zeros, Am.rowAt, Am.part, addOff, Nat.reduceAdd, Nat.reduceMul, Nat.reduceLeDiff, Nat.reduceSub, Nat.reduceLT, Int.reduceEq, Int.reduceLT, Int.reduceLE, Int.reduceGT, Int.reduceGE, Int.reduceAdd, Int.reduceSub, Int.reduceMul, Int.reduceNeg, Int.reduceToNat, reduceCtorEq, reduceIte, lenV_sl H.k, lenV_sl H.p, lenV_sl H.b, elem_kd H.k, elem_pr H.p, elem_in H.b, view_sl H.k, view_sl H.p, view_sl H.b, scalar_sl H.k, scalar_sl H.p, scalar_sl H.b, cells_sl H.k, cells_sl H.p, cells_sl H.b, pure_sl H.k, pure_sl H.p, pure_sl H.b, Int.toNat_natCast, lenV_sl V, elem_in V, view_sl V, scalar_sl V, cells_sl V, pure_sl V, Int.toNat_natCast, hlt, a, hc, gUn, hg, Bool.not_true, decide_false]
    exact ih (l.length - (i + 1)) _ _ _ (by omega) ⟨i + 1, by omega, rfl, nx (by rw [hc, decide_eq_true h0]; rfl), rfl, rfl, rfl, rfl, rfl, rfl, rfl, rfl⟩
  have hg : (i : Int) > 0 := by omega
  have hm1 : (0 : Int) ≤ (i : Int) - 1 := by omega
  have hm2 : (i : Int) - 1 < l.length := by omega
  have hm3 : ((i : Int) - 1).toNat = i - 1 := by omega
  by_cases hle : l.getD i 0 ≤ l.getD (i - 1) 0
  · have hn : ¬ l.getD (i - 1) 0 < l.getD i 0 := by omega
    have ev : risB l 0 (h.ps.length - 1) = false := no (by rw [decide_eq_false hn, decide_eq_false h0, Bool.or_false, Bool.and_false])
    simp (disch := first | assumption | omega | (simp only [az]; done)) only [ru, eq_self, if_true, if_false, BEq.rfl, binI, AO.row?, splice, fillL, mmAll, loadV, storeV, zeros, Am.rowAt, Am.part, addOff, Nat.reduceAdd, Nat.reduceMul, Nat.reduceLeDiff, Nat.reduceSub, Nat.reduceLT, Int.reduceEq, Int.reduceLT, Int.reduceLE, Int.reduceGT, Int.reduceGE, Int.reduceAdd, Int.reduceSub, Int.reduceMul, Int.reduceNeg, Int.reduceToNat, reduceCtorEq, reduceIte, lenV_sl H.k, lenV_sl H.p, lenV_sl H.b, elem_kd H.k, elem_pr H.p, elem_in H.b, view_sl H.k, view_sl H.p, view_sl H.b, scalar_sl H.k, scalar_sl H.p, scalar_sl H.b, cells_sl H.k, cells_sl H.p, cells_sl H.b, pure_sl H.k, pure_sl H.p, pure_sl H.b, Int.toNat_natCast, lenV_sl V, elem_in V, view_sl V, scalar_sl V, cells_sl V, pure_sl V, Int.toNat_natCast, hlt, a, hc, gUn, hg, hm1, hm2, hm3, hle, ev, Bool.not_true, decide_true]
  · have hn : l.getD (i - 1) 0 < l.getD i 0 := by omega
    simp (disch := first | assumption | omega | (simp only [az]; done)) only [ru, eq_self, if_true, if_false, BEq.rfl, binI, AO.row?, splice, fillL, mmAll, loadV, storeV, zeros, Am.rowAt, Am.part, addOff, Nat.reduceAdd, Nat.reduceMul, Nat.reduceLeDiff, Nat.reduceSub, Nat.reduceLT, Int.reduceEq, Int.reduceLT, Int.reduceLE, Int.reduceGT, Int.reduceGE, Int.reduceAdd, Int.reduceSub, Int.reduceMul, Int.reduceNeg, Int.reduceToNat, reduceCtorEq, reduceIte, lenV_sl H.k, lenV_sl H.p, lenV_sl H.b, elem_kd H.k, elem_pr H.p, elem_in H.b, view_sl H.k, view_sl H.p, view_sl H.b, scalar_sl H.k, scalar_sl H.p, scalar_sl H.b, cells_sl H.k, cells_sl H.p, cells_sl H.b, pure_sl H.k, pure_sl H.p, pure_sl H.b, Int.toNat_natCast, lenV_sl V, elem_in V, view_sl V, scalar_sl V, cells_sl V, pure_sl V, Int.toNat_natCast, hlt, a, hc, gUn, hg, hm1, hm2, hm3, hle, Bool.not_true, decide_true, decide_false]
    exact ih (l.length - (i + 1)) _ _ _ (by omega) ⟨i + 1, by omega, rfl, nx (by rw [hc, decide_eq_true hn, Bool.or_true, Bool.and_true]), rfl, rfl, rfl, rfl, rfl, rfl, rfl, rfl⟩
/-- with one part more in a barrel -/
theorem ft_snoc (G : HG h) {x : List Int} {c : Nat} (hx : x.length < h.ps.length) (hc : c < h.bs.length) (hf : h.ft x = true) : h.ft (x ++ [(c : Int)]) = decide (ndP h.ks h.fl (prs h.ps (x ++ [(c : Int)]) c) ≤ h.bs.getD c 0) := by
  rw [Bool.eq_iff_iff, Hs.ft_iff, decide_eq_true_eq]
  constructor
  · intro h1; exact h1 c hc
  · intro h1 d hd
    by_cases e : d = c
    · subst e; exact h1
    · rw [prs_snoc hx, if_neg (by omega), List.append_nil]
      exact Hs.ft_iff.1 hf d hd
theorem ft_nil (G : HG h) : h.ft [] = true := Hs.ft_iff.2 fun b hb => by
  have e : prs h.ps [] b = [] := by simp [prs]
  rw [e]
  exact (G.b b hb).1
theorem not_ft_take (G : HG h) {x : List Int} {i : Nat} (hn : h.ft (x.take i) = false) : h.ft x = false := by
  cases c : h.ft x with
  | false => rfl
  | true => rw [G.ft_take c] at hn; cases hn
set_option maxHeartbeats 4000000 in
theorem s72 (H : HsOk h k p b) (G : HG h) {x : List Int} {v : AV} (V : IsSl 1 intL x v) (hl : x.length ≤ 1000) : ∃ j, (h.isP x = true → j = x.length) ∧ ∀ st, Iso E 72 [hsV h.fl k p b, v] st = some (.tup [.agg (lds h (x.take j)), Bo (h.isP x)]) := by
  have np := G.np; have nb := G.nb
  suffices key : ∃ r h', R E (.fn 72) [hsV h.fl k p b, v] [] 0 = some (r, h') ∧ ∃ j, (h.isP x = true → j = x.length) ∧ r = .tup [.agg (lds h (x.take j)), Bo (h.isP x)] by
    obtain ⟨r, h', hr, j, h1, rfl⟩ := key
    refine ⟨j, h1, fun st => ?_⟩
    simp only [Iso, hr, view_tup, view_agg, List.mapM_cons, List.mapM_nil, iv_view lds_iv, view_bool]
    rfl
  have lz : [I 0, I 0, I 0, I 0, I 0, I 0, I 0, I 0, I 0, I 0, I 0, I 0, I 0, I 0, I 0, I 0] = lds h [] := by rw [lds_nil]; rfl
  refine R_of (fun r h' => ∃ j, (h.isP x = true → j = x.length) ∧ r = .tup [.agg (lds h (x.take j)), Bo (h.isP x)]) (es _ _ _ _) e72 ?_
  simp only [f72, hsV]
  have ll0 := lds_len (h := h) (x := [])
  have iv0 := lds_iv (h := h) (x := [])
  have tk0 : (lds h []).take 16 = lds h [] := List.take_of_length_le (by omega)
  have dr0 : (lds h []).drop 16 = [] := List.drop_of_length_le (by omega)
  by_cases h0 : x.length = h.ps.length
  case neg =>
    have h0' : ¬ (x.length : Int) = h.ps.length := by omega
    have ev : h.isP x = false := by simp only [Hs.isP]; rw [decide_eq_false h0]; rfl
    simp (disch := first | assumption | omega | (simp only [az]; done)) only [ru, eq_self, if_true, if_false, BEq.rfl, binI, AO.row?, splice, fillL, mmAll, loadV, storeV, zeros, Am.rowAt, Am.part, addOff, Nat.reduceAdd, Nat.reduceMul, Nat.reduceLeDiff, Nat.reduceSub, Nat.reduceLT, Int.reduceEq, Int.reduceLT, Int.reduceLE, Int.reduceGT, Int.reduceGE, Int.reduceAdd, Int.reduceSub, Int.reduceMul, Int.reduceNeg, Int.reduceToNat, reduceCtorEq, reduceIte, lenV_sl H.k, lenV_sl H.p, lenV_sl H.b, elem_kd H.k, elem_pr H.p, elem_in H.b, view_sl H.k, view_sl H.p, view_sl H.b, scalar_sl H.k, scalar_sl H.p, scalar_sl H.b, cells_sl H.k, cells_sl H.p, cells_sl H.b, pure_sl H.k, pure_sl H.p, pure_sl H.b, Int.toNat_natCast, lenV_sl V, elem_in V, view_sl V, scalar_sl V, cells_sl V, pure_sl V, Int.toNat_natCast, h0', lz, ll0, tk0, dr0, List.append_nil, iv_sc iv0, decide_false, Bool.not_false, finC2, getRes, Option.some.injEq, exists_eq_left']
    refine ⟨0, ?_, ?_⟩
    · intro e; rw [ev] at e; cases e
    · rw [ev]; rfl
  have h0' : (x.length : Int) = h.ps.length := by omega
  simp (disch := first | assumption | omega | (simp only [az]; done)) only [ru, eq_self, if_true, if_false, BEq.rfl, binI, AO.row?, splice, fillL, mmAll, loadV, storeV, zeros, Am.rowAt, Am.part, addOff, Nat.reduceAdd, Nat.reduceMul, Nat.reduceLeDiff, Nat.reduceSub, Nat.reduceLT, Int.reduceEq, Int.reduceLT, Int.reduceLE, Int.reduceGT, Int.reduceGE, Int.reduceAdd, Int.reduceSub, Int.reduceMul, Int.reduceNeg, Int.reduceToNat, reduceCtorEq, reduceIte, lenV_sl H.k, lenV_sl H.p, lenV_sl H.b, elem_kd H.k, elem_pr H.p, elem_in H.b, view_sl H.k, view_sl H.p, view_sl H.b, scalar_sl H.k, scalar_sl H.p, scalar_sl H.b, cells_sl H.k, cells_sl H.p, cells_sl H.b, pure_sl H.k, pure_sl H.p, pure_sl H.b, Int.toNat_natCast, lenV_sl V, elem_in V, view_sl V, scalar_sl V, cells_sl V, pure_sl V, Int.toNat_natCast, h0', lz, ll0, tk0, dr0, List.append_nil, iv_sc iv0, decide_true, Bool.not_true]
  refine G_loop_ind (fun m ts hh mk => ∃ (i : Nat) (J : List AO) (Z : List AV), i ≤ x.length ∧ m = x.length - i ∧ (x.take i).all (fun c => inR c 0 (h.bs.length - 1)) = true ∧ h.ft (x.take i) = true ∧ ts.length = 44 ∧ ts.getD 1 .undef = v ∧ ts.getD 2 .undef = .ptr 0 0 ∧ ts.getD 4 .undef = .ptr 1 0 ∧ ts.getD 6 .undef = .ptr 2 0 ∧ ts.getD 18 .undef = v ∧ ts.getD 19 .undef = I x.length ∧ ts.getD 20 .undef = I i ∧
      hh = .cells [k, I h.fl, p, b] false :: .cells (lds h []) false :: .cells Z false :: J ∧ mk = [] ∧ Z = lds h (x.take i)) ?_ _ _ _ _
    ⟨0, [], _, Nat.zero_le _, rfl, rfl, ft_nil G, rfl, rfl, rfl, rfl, rfl, rfl, h0'.symm ▸ rfl, rfl, rfl, rfl, rfl⟩
  rintro m ts hh mk ih ⟨i, J, Z, hi', rfl, hall, hft, hl', q1, q2, q4, q6, q18, q19, q20, rfl, rfl, hZ⟩
  have Zl : Z.length = 16 := by rw [hZ]; exact lds_len
  have Zi : IvL Z := by rw [hZ]; exact lds_iv
  have tk : Z.take 16 = Z := List.take_of_length_le (by omega)
  have dr : Z.drop 16 = [] := List.drop_of_length_le (by omega)
  rw [lit_all hl']
  simp only [lit0, litS, Nat.reduceAdd, q1, q2, q4, q6, q18, q19, q20]
  simp (disch := first | assumption | omega | (simp only [az]; done)) only [ru, eq_self, if_true, if_false, BEq.rfl, binI, AO.row?, splice, fillL, mmAll, loadV, storeV, zeros, Am.rowAt, Am.part, addOff, Nat.reduceAdd, Nat.reduceMul, Nat.reduceLeDiff, Nat.reduceSub, Nat.reduceLT, Int.reduceEq, Int.reduceLT, Int.reduceLE, Int.reduceGT, Int.reduceGE, Int.reduceAdd, Int.reduceSub, Int.reduceMul, Int.reduceNeg, Int.reduceToNat, reduceCtorEq, reduceIte, lenV_sl V, elem_in V, view_sl V, scalar_sl V, cells_sl V, pure_sl V, Int.toNat_natCast]
  by_cases hlt : (i : Int) < x.length
  case neg =>
    obtain rfl : i = x.length := by omega
    rw [List.take_length] at hall hft hZ
    have ev : h.isP x = true := by simp only [Hs.isP, hall, hft, decide_eq_true h0, Bool.and_self]
    simp (disch := first | assumption | omega | (simp only [az]; done)) only [ru, eq_self, if_true, if_false, BEq.rfl, binI, AO.row?, splice, fillL, mmAll, loadV, storeV, zeros, Am.rowAt, Am.part, addOff, Nat.reduceAdd, Nat.reduceMul, Nat.reduceLeDiff, Nat.reduceSub, Nat.reduceLT, Int.reduceEq, Int.reduceLT, Int.reduceLE, Int.reduceGT, Int.reduceGE, Int.reduceAdd, Int.reduceSub, Int.reduceMul, Int.reduceNeg, Int.reduceToNat, reduceCtorEq, reduceIte, hlt, Zl, tk, dr, dr0, List.append_nil, ll0, iv_sc Zi, finC2, getRes, Option.some.injEq, exists_eq_left']
    refine ⟨x.length, fun _ => rfl, ?_⟩
    rw [ev, List.take_length, ← hZ]
  have hi2 : i < x.length := by omega
  have no := fun hp => all_not (p := fun c => inR c 0 (h.bs.length - 1)) hi2 rfl hp
  have nx := fun hp => all_upto_succ (p := fun c => inR c 0 (h.bs.length - 1)) hi2 rfl hall hp
  have a1 := fun n st => s73 H n st
  simp only [hsV] at a1
  have et := take_snoc (d := 0) hi2
  obtain ⟨y, hy⟩ : ∃ y, y = x.getD i 0 := ⟨_, rfl⟩
  have hd : x.getD i default = y := hy.symm
  rw [hd] at no nx
  rw [← hy] at et
  cases hc : inR y 0 (h.bs.length - 1)
  · have ev : h.isP x = false := by simp only [Hs.isP, no hc, Bool.and_false, Bool.false_and]
    simp (disch := first | assumption | omega | (simp only [az]; done)) only [ru, eq_self, if_true, if_false, BEq.rfl, binI, AO.row?, splice, fillL, mmAll, loadV, storeV, zeros, Am.rowAt, Am.part, addOff, Nat.reduceAdd, Nat.reduceMul, Nat.reduceLeDiff, Nat.reduceSub, Nat.reduceLT, Int.reduceEq, Int.reduceLT, Int.reduceLE, Int.reduceGT, Int.reduceGE, Int.reduceAdd, Int.reduceSub, Int.reduceMul, Int.reduceNeg, Int.reduceToNat, reduceCtorEq, reduceIte, lenV_sl H.k, lenV_sl H.p, lenV_sl H.b, elem_kd H.k, elem_pr H.p, elem_in H.b, view_sl H.k, view_sl H.p, view_sl H.b, scalar_sl H.k, scalar_sl H.p, scalar_sl H.b, cells_sl H.k, cells_sl H.p, cells_sl H.b, pure_sl H.k, pure_sl H.p, pure_sl H.b, Int.toNat_natCast, lenV_sl V, elem_in V, view_sl V, scalar_sl V, cells_sl V, pure_sl V, Int.toNat_natCast, hlt, ← hy, a1, hc, Zl, tk, dr, dr0, List.append_nil, ll0, iv_sc Zi, Bool.not_false, finC2, getRes, Option.some.injEq, exists_eq_left']
    refine ⟨i, ?_, ?_⟩
    · intro e; rw [ev] at e; cases e
    · rw [ev, ← hZ]
  have hcr := inR_iff.1 hc
  obtain ⟨c, rfl⟩ : ∃ c : Nat, y = c := ⟨y.toNat, by omega⟩
  have tl := List.length_take_of_le (show i ≤ x.length by omega)
  have a2 := fun st => s97 H G (x := x.take i) (by omega) (c := c) (by omega) st
  have ef := ft_snoc G (x := x.take i) (c := c) (by omega) (by omega) hft
  simp only [hsV] at a2
  rw [← ef, ← et, ← hZ, tl] at a2
  obtain ⟨Y, hY⟩ : ∃ Y, Y = lds h (x.take (i + 1)) := ⟨_, rfl⟩
  have Yl : Y.length = 16 := by rw [hY]; exact lds_len
  have Yi : IvL Y := by rw [hY]; exact lds_iv
  have tkY : Y.take 16 = Y := List.take_of_length_le (by omega)
  rw [← hY] at a2
  cases hf : h.ft (x.take (i + 1))
  · have ev : h.isP x = false := by simp only [Hs.isP, not_ft_take G hf, Bool.and_false]
    simp (disch := first | assumption | omega | (simp only [az]; done)) only [ru, eq_self, if_true, if_false, BEq.rfl, binI, AO.row?, splice, fillL, mmAll, loadV, storeV, zeros, Am.rowAt, Am.part, addOff, Nat.reduceAdd, Nat.reduceMul, Nat.reduceLeDiff, Nat.reduceSub, Nat.reduceLT, Int.reduceEq, Int.reduceLT, Int.reduceLE, Int.reduceGT, Int.reduceGE, Int.reduceAdd, Int.reduceSub, Int.reduceMul, Int.reduceNeg, Int.reduceToNat, reduceCtorEq, reduceIte, lenV_sl H.k, lenV_sl H.p, lenV_sl H.b, elem_kd H.k, elem_pr H.p, elem_in H.b, view_sl H.k, view_sl H.p, view_sl H.b, scalar_sl H.k, scalar_sl H.p, scalar_sl H.b, cells_sl H.k, cells_sl H.p, cells_sl H.b, pure_sl H.k, pure_sl H.p, pure_sl H.b, Int.toNat_natCast, lenV_sl V, elem_in V, view_sl V, scalar_sl V, cells_sl V, pure_sl V, Int.toNat_natCast, hlt, ← hy, a1, a2, hc, hf, Zl, tk, dr, dr0, List.append_nil, Yl, tkY, ll0, iv_sc Zi, iv_sc Yi, iv_view Zi, iv_pure Zi, Bool.not_false, Bool.not_true, finC2, getRes, Option.some.injEq, exists_eq_left']
    refine ⟨i, ?_, ?_⟩
    · intro e; rw [ev] at e; cases e
    · rw [ev, ← hZ]
  · simp (disch := first | assumption | omega | (simp only [az]; done)) only [ru, eq_self, if_true, if_false, BEq.rfl, binI, AO.row?, splice, fillL, mmAll, loadV, storeV, zeros, Am.rowAt, Am.part, addOff, Nat.reduceAdd, Nat.reduceMul, Nat.reduceLeDiff, Nat.reduceSub, Nat.reduceLT, Int.reduceEq, Int.reduceLT, Int.reduceLE, Int.reduceGT, Int.reduceGE, Int.reduceAdd, Int.reduceSub, Int.reduceMul, Int.reduceNeg, Int.reduceToNat, reduceCtorEq, reduceIte, lenV_sl H.k, lenV_sl H.p, lenV_sl H.b, elem_kd H.k, elem_pr H.p, elem_in H.b, view_sl H.k, view_sl H.p, view_sl H.b, scalar_sl H.k, scalar_sl H.p, scalar_sl H.b, cells_sl H.k, cells_sl H.p, cells_sl H.b, pure_sl H.k, pure_sl H.p, pure_sl H.b, Int.toNat_natCast, lenV_sl V, elem_in V, view_sl V, scalar_sl V, cells_sl V, pure_sl V, Int.toNat_natCast, hlt, ← hy, a1, a2, hc, hf, Zl, tk, dr, dr0, List.append_nil, Yl, tkY, ll0, iv_sc Zi, iv_sc Yi, iv_view Zi, iv_pure Zi, Bool.not_true]
    exact ih (x.length - (i + 1)) _ _ _ (by omega) ⟨i + 1, _, _, by omega, rfl, nx hc, hf, rfl, rfl, rfl, rfl, rfl, rfl, rfl, rfl, rfl, rfl, hY⟩
end
end Go.Proofs.Ytcdedbpmjhjehaa.S

/-
The program: sums over the barrels, salts, packings that are asked for.
-/
namespace Go.Proofs.Ytcdedbpmjhjehaa.S
open Go Go.Am Go.Proofs.Ytcdedbpmjhjehaa.T
set_option maxRecDepth 100000
set_option linter.unusedSimpArgs false
set_option linter.unusedVariables false

section
variable {h : Hs} {k p b : AV}
theorem prs_bd (G : HG h) (x : List Int) (c : Int) : 0 ≤ lbP (prs h.ps x c) ∧ lbP (prs h.ps x c) ≤ 240 ∧ 0 ≤ slP h.ks h.fl (prs h.ps x c) ∧ slP h.ks h.fl (prs h.ps x c) ≤ 240 := by
  have h1 := lb_bd (G.pp x c)
  have h2 := sl_bd G.g (G.pp x c)
  have h3 := prs_len (ps := h.ps) (x := x) (b := c)
  have := G.np
  omega
theorem sums_bd {f : Nat → Int} {m : Int} (hf : ∀ i, 0 ≤ f i ∧ f i ≤ m) : ∀ n : Nat, 0 ≤ sums n f ∧ sums n f ≤ m * n
  | 0 => by simp [sums, sm]
  | n + 1 => by
    have := sums_bd hf n
    have h2 := hf n
    rw [sums_succ]
    have e : m * ((n + 1 : Nat) : Int) = m * n + m := by push_cast; rw [Int.mul_add, Int.mul_one]
    rw [e]
    omega
theorem at2 {α : Type} {g : List α} {a b : α} : (g ++ [a] ++ [b])[g.length + 1]? = some b := by simp
abbrev HHC (h : Hs) (k p b : AV) : AO := .cells [k, I h.fl, p, b] false
set_option maxHeartbeats 2000000 in
theorem q77 (H : HsOk h k p b) (G : HG h) (x : List Int) (g : List AO) : Ro E 77 [hsV h.fl k p b, .agg (lds h x)] g = some (I (sums 4 fun c => slP h.ks h.fl (prs h.ps x c))) := by
  have a1 := fun (c : Nat) st => s68 H G (G.pp x c) (by have := prs_le G x c; omega) st
  have g0 := fun (i : Nat) (hi : i < 4) => lds_get (h := h) (x := x) (i := i) hi
  have ll := lds_len (h := h) (x := x)
  have iv := lds_iv (h := h) (x := x)
  have es1 := fun n => sums_succ (n := n) (f := fun c => slP h.ks h.fl (prs h.ps x c))
  have sb := fun n => sums_bd (f := fun c => slP h.ks h.fl (prs h.ps x c)) (m := 240) (fun i => ⟨(prs_bd G x i).2.2.1, (prs_bd G x i).2.2.2⟩) n
  have rb := fun (n : Nat) => prs_bd G x n
  have rl := fun (c : Nat) => ldc_iv (ks := h.ks) (l := prs h.ps x c)
  have rlen := fun (c : Nat) => (show (ldc h.ks (prs h.ps x c)).length = 4 from rfl)
  simp only [hsV] at a1
  obtain ⟨S, hS⟩ : ∃ S : Nat → Int, S = fun n => sums n fun c => slP h.ks h.fl (prs h.ps x c) := ⟨_, rfl⟩
  obtain ⟨A, hA⟩ : ∃ A : Nat → List AV, A = fun (c : Nat) => ldc h.ks (prs h.ps x c) := ⟨_, rfl⟩
  obtain ⟨B, hB⟩ : ∃ B : Nat → Int, B = fun (c : Nat) => slP h.ks h.fl (prs h.ps x c) := ⟨_, rfl⟩
  obtain ⟨Z, hZ⟩ : ∃ Z, Z = lds h x := ⟨_, rfl⟩
  have eS : ∀ n, S (n + 1) = S n + B n := fun n => by rw [hS, hB]; exact es1 n
  have eA : ∀ c : Nat, (Z.drop (c * 4)).take 4 = A c ∨ ¬ c < 4 := fun c => by
    by_cases hc : c < 4
    · rw [hZ, hA]; exact .inl (g0 c hc)
    · exact .inr hc
  have a1' : ∀ (c : Nat) st, Iso E 68 [.agg [k, I h.fl, p, b], .agg (A c)] st = some (I (B c)) := fun c st => by rw [hA, hB]; exact a1 c st
  have bS : ∀ n, 0 ≤ S n ∧ S n ≤ 240 * n := fun n => by rw [hS]; exact sb n
  have bB : ∀ n, 0 ≤ B n ∧ B n ≤ 240 := fun n => by rw [hB]; exact ⟨(rb n).2.2.1, (rb n).2.2.2⟩
  have lA : ∀ c, (A c).length = 4 := fun c => by rw [hA]; rfl
  have iA : ∀ c, IvL (A c) := fun c => by rw [hA]; exact rl c
  have S0 : S 0 = 0 := by rw [hS]; rfl
  rw [show (sums 4 fun c => slP h.ks h.fl (prs h.ps x c)) = S 4 by rw [hS]]
  rw [← hZ] at ll iv ⊢
  clear hS hA hB hZ a1 g0 es1 sb rb rl rlen
  have tk : Z.take 16 = Z := List.take_of_length_le (by omega)
  refine Ro_of (es _ _ _ _) e77 ?_
  simp only [f77, hsV]
  simp (disch := first | assumption | omega | (simp only [az]; done)) only [ru, eq_self, if_true, if_false, BEq.rfl, binI, AO.row?, splice, fillL, mmAll, loadV, storeV, zeros, Am.rowAt, Am.part, addOff, Nat.reduceAdd, Nat.reduceMul, Nat.reduceLeDiff, Nat.reduceSub, Nat.reduceLT, Int.reduceEq, Int.reduceLT, Int.reduceLE, Int.reduceGT, Int.reduceGE, Int.reduceAdd, Int.reduceSub, Int.reduceMul, Int.reduceNeg, Int.reduceToNat, reduceCtorEq, reduceIte, lenV_sl H.k, lenV_sl H.p, lenV_sl H.b, elem_kd H.k, elem_pr H.p, elem_in H.b, view_sl H.k, view_sl H.p, view_sl H.b, scalar_sl H.k, scalar_sl H.p, scalar_sl H.b, cells_sl H.k, cells_sl H.p, cells_sl H.b, pure_sl H.k, pure_sl H.p, pure_sl H.b, Int.toNat_natCast, rmr, ll, tk, iv_sc iv, at2, atE, lenE]
  refine G_loop_ind (fun m ts hh mk => ∃ i : Nat, i ≤ 4 ∧ m = 4 - i ∧ ts.length = 19 ∧ ts.getD 2 .undef = .ptr g.length 0 ∧ ts.getD 5 .undef = I (S i) ∧ ts.getD 8 .undef = .agg Z ∧ ts.getD 9 .undef = I i ∧ hh[g.length]? = some (HHC h k p b) ∧ g.length < hh.length ∧ mk = []) ?_ 4 _ _ _ ?_
  rotate_left
  · exact ⟨0, by omega, rfl, rfl, rfl, by rw [S0]; rfl, rfl, rfl, by simp, by simp, rfl⟩
  rintro m ts hh mk ih ⟨i, hi', rfl, hl', q2, q5, q8, q9, c0, ol, rfl⟩
  rw [lit_all hl']
  simp only [lit0, litS, Nat.reduceAdd, q2, q5, q8, q9]
  simp (disch := first | assumption | omega | (simp only [az]; done)) only [ru, eq_self, if_true, if_false, BEq.rfl, binI, AO.row?, splice, fillL, mmAll, loadV, storeV, zeros, Am.rowAt, Am.part, addOff, Nat.reduceAdd, Nat.reduceMul, Nat.reduceLeDiff, Nat.reduceSub, Nat.reduceLT, Int.reduceEq, Int.reduceLT, Int.reduceLE, Int.reduceGT, Int.reduceGE, Int.reduceAdd, Int.reduceSub, Int.reduceMul, Int.reduceNeg, Int.reduceToNat, reduceCtorEq, reduceIte]
  by_cases hlt : (i : Int) < 4
  case pos =>
    have hi2 : i < 4 := by omega
    have eAi := (eA i).resolve_right (by omega)
    have b1 := bS i
    have b2 := bB i
    have w0 : (0 : Int) ≤ i := by omega
    have ol2 : g.length ≤ hh.length := by omega
    have e4 := eS i
    have A4 := lA i
    have tkA : (A i).take 4 = A i := List.take_of_length_le (by omega)
    have drA : (A i).drop 4 = [] := List.drop_of_length_le (by omega)
    simp (disch := first | assumption | omega | (simp only [az]; done)) only [ru, eq_self, if_true, if_false, BEq.rfl, binI, AO.row?, splice, fillL, mmAll, loadV, storeV, zeros, Am.rowAt, Am.part, addOff, Nat.reduceAdd, Nat.reduceMul, Nat.reduceLeDiff, Nat.reduceSub, Nat.reduceLT, Int.reduceEq, Int.reduceLT, Int.reduceLE, Int.reduceGT, Int.reduceGE, Int.reduceAdd, Int.reduceSub, Int.reduceMul, Int.reduceNeg, Int.reduceToNat, reduceCtorEq, reduceIte, lenV_sl H.k, lenV_sl H.p, lenV_sl H.b, elem_kd H.k, elem_pr H.p, elem_in H.b, view_sl H.k, view_sl H.p, view_sl H.b, scalar_sl H.k, scalar_sl H.p, scalar_sl H.b, cells_sl H.k, cells_sl H.p, cells_sl H.b, pure_sl H.k, pure_sl H.p, pure_sl H.b, Int.toNat_natCast, hlt, w0, ol2, ll, eAi, A4, tkA, drA, List.append_nil, iv_sc (iA i), iv_view (iA i), iv_pure (iA i), a1', c0, at_ap ol, atE, setE]
    refine ih (4 - (i + 1)) _ _ _ (by omega) ⟨i + 1, by omega, rfl, rfl, rfl, ?_, rfl, rfl, ?_, ?_, rfl⟩
    · rw [e4]; rfl
    · rw [at_ap ol]; exact c0
    · simp; omega
  obtain rfl : i = 4 := by omega
  simp (disch := first | assumption | omega | (simp only [az]; done)) only [ru, eq_self, if_true, if_false, BEq.rfl, binI, AO.row?, splice, fillL, mmAll, loadV, storeV, zeros, Am.rowAt, Am.part, addOff, Nat.reduceAdd, Nat.reduceMul, Nat.reduceLeDiff, Nat.reduceSub, Nat.reduceLT, Int.reduceEq, Int.reduceLT, Int.reduceLE, Int.reduceGT, Int.reduceGE, Int.reduceAdd, Int.reduceSub, Int.reduceMul, Int.reduceNeg, Int.reduceToNat, reduceCtorEq, reduceIte, hlt]
  rfl
/-- the rows of the loads -/
theorem lds_rows (G : HG h) (x : List Int) : ∃ (Z : List AV) (n l s d : Nat → Int), Z = lds h x ∧ Z.length = 16 ∧ IvL Z ∧ (∀ c : Nat, n c = ((prs h.ps x c).length : Int)) ∧ (∀ c : Nat, l c = lbP (prs h.ps x c)) ∧ (∀ c : Nat, s c = stP h.ks (prs h.ps x c)) ∧ (∀ c : Nat, d c = dyP h.ks (prs h.ps x c)) ∧
    (∀ c, c < 4 → (Z.drop (c * 4)).take 4 = [I (n c), I (l c), I (s c), I (d c)]) := by
  refine ⟨_, fun c => ((prs h.ps x c).length : Int), fun c => lbP (prs h.ps x c), fun c => stP h.ks (prs h.ps x c), fun c => dyP h.ks (prs h.ps x c), rfl, lds_len, lds_iv, fun _ => rfl, fun _ => rfl, fun _ => rfl, fun _ => rfl, fun c hc => ?_⟩
  rw [lds_get hc]; rfl
theorem Iso_ro {f : Nat} {vs : List AV} {n : Int} (h : Ro E f vs [] = some (I n)) (st : Bool) : Iso E f vs st = some (I n) := by
  unfold Ro at h
  unfold Iso
  cases hr : R E (.fn f) vs [] 0 with
  | none => simp only [List.length_nil, hr] at h; cases h
  | some r =>
    obtain ⟨v, h'⟩ := r
    simp only [List.length_nil, hr] at h ⊢
    split at h
    · obtain rfl := Option.some.inj h
      exact view_int
    · cases h
set_option maxHeartbeats 2000000 in
theorem q79 (H : HsOk h k p b) (G : HG h) (x : List Int) (g : List AO) : Ro E 79 [hsV h.fl k p b, .agg (lds h x)] g = some (I (sums 4 fun c => if (prs h.ps x c).length = 0 then 0 else 1)) := by
  obtain ⟨Z, n, l, s, d, hZ, Zl, iv, en, _, _, _, er⟩ := lds_rows G x
  have e1 := fun i => sums_succ (n := i) (f := fun c => if (prs h.ps x c).length = 0 then 0 else 1)
  have sb := fun i => sums_bd (f := fun c => if (prs h.ps x c).length = 0 then 0 else 1) (m := 1) (fun i => by split <;> omega) i
  rw [← hZ]
  obtain ⟨S, hS⟩ : ∃ S : Nat → Int, S = fun n => sums n fun c => if (prs h.ps x c).length = 0 then 0 else 1 := ⟨_, rfl⟩
  rw [show (sums 4 fun c => if (prs h.ps x c).length = 0 then 0 else 1) = S 4 by rw [hS]]
  have eS : ∀ i, S (i + 1) = S i + (if n i = 0 then 0 else 1) := fun i => by
    rw [hS]; simp only; rw [e1]
    by_cases hc : (prs h.ps x i).length = 0
    · rw [if_pos hc, if_pos (by rw [en]; omega)]
    · rw [if_neg hc, if_neg (by rw [en]; omega)]
  have bS : ∀ i, 0 ≤ S i ∧ S i ≤ 1 * i := fun i => by rw [hS]; exact sb i
  have S0 : S 0 = 0 := by rw [hS]; rfl
  have n0 : ∀ c, 0 ≤ n c := fun c => by rw [en]; omega
  clear hS hZ e1 sb
  have tk : Z.take 16 = Z := List.take_of_length_le (by omega)
  refine Ro_of (es _ _ _ _) e79 ?_
  simp only [f79, hsV]
  simp (disch := first | assumption | omega | (simp only [az]; done)) only [ru, eq_self, if_true, if_false, BEq.rfl, binI, AO.row?, splice, fillL, mmAll, loadV, storeV, zeros, Am.rowAt, Am.part, addOff, Nat.reduceAdd, Nat.reduceMul, Nat.reduceLeDiff, Nat.reduceSub, Nat.reduceLT, Int.reduceEq, Int.reduceLT, Int.reduceLE, Int.reduceGT, Int.reduceGE, Int.reduceAdd, Int.reduceSub, Int.reduceMul, Int.reduceNeg, Int.reduceToNat, reduceCtorEq, reduceIte, lenV_sl H.k, lenV_sl H.p, lenV_sl H.b, elem_kd H.k, elem_pr H.p, elem_in H.b, view_sl H.k, view_sl H.p, view_sl H.b, scalar_sl H.k, scalar_sl H.p, scalar_sl H.b, cells_sl H.k, cells_sl H.p, cells_sl H.b, pure_sl H.k, pure_sl H.p, pure_sl H.b, Int.toNat_natCast, rmr, Zl, tk, iv_sc iv, at2, atE, lenE]
  refine G_loop_ind (fun m ts hh mk => ∃ i : Nat, i ≤ 4 ∧ m = 4 - i ∧ ts.length = 19 ∧ ts.getD 5 .undef = I (S i) ∧ ts.getD 8 .undef = .agg Z ∧ ts.getD 9 .undef = I i ∧ g.length ≤ hh.length ∧ mk = []) ?_ 4 _ _ _ ?_
  rotate_left
  · exact ⟨0, by omega, rfl, rfl, by rw [S0]; rfl, rfl, rfl, by simp, rfl⟩
  rintro m ts hh mk ih ⟨i, hi', rfl, hl', q5, q8, q9, ol2, rfl⟩
  rw [lit_all hl']
  simp only [lit0, litS, Nat.reduceAdd, q5, q8, q9]
  simp (disch := first | assumption | omega | (simp only [az]; done)) only [ru, eq_self, if_true, if_false, BEq.rfl, binI, AO.row?, splice, fillL, mmAll, loadV, storeV, zeros, Am.rowAt, Am.part, addOff, Nat.reduceAdd, Nat.reduceMul, Nat.reduceLeDiff, Nat.reduceSub, Nat.reduceLT, Int.reduceEq, Int.reduceLT, Int.reduceLE, Int.reduceGT, Int.reduceGE, Int.reduceAdd, Int.reduceSub, Int.reduceMul, Int.reduceNeg, Int.reduceToNat, reduceCtorEq, reduceIte]
  by_cases hlt : (i : Int) < 4
  case pos =>
    have hi2 : i < 4 := by omega
    have eAi := er i hi2
    have b1 := bS i
    have w0 : (0 : Int) ≤ i := by omega
    have e4 := eS i
    have ni := n0 i
    by_cases hc : n i = 0
    · have hc1 : ¬ n i > 0 := by omega
      rw [if_pos hc, Int.add_zero] at e4
      simp (disch := first | assumption | omega | (simp only [az]; done)) only [ru, eq_self, if_true, if_false, BEq.rfl, binI, AO.row?, splice, fillL, mmAll, loadV, storeV, zeros, Am.rowAt, Am.part, addOff, Nat.reduceAdd, Nat.reduceMul, Nat.reduceLeDiff, Nat.reduceSub, Nat.reduceLT, Int.reduceEq, Int.reduceLT, Int.reduceLE, Int.reduceGT, Int.reduceGE, Int.reduceAdd, Int.reduceSub, Int.reduceMul, Int.reduceNeg, Int.reduceToNat, reduceCtorEq, reduceIte, lenV_sl H.k, lenV_sl H.p, lenV_sl H.b, elem_kd H.k, elem_pr H.p, elem_in H.b, view_sl H.k, view_sl H.p, view_sl H.b, scalar_sl H.k, scalar_sl H.p, scalar_sl H.b, cells_sl H.k, cells_sl H.p, cells_sl H.b, pure_sl H.k, pure_sl H.p, pure_sl H.b, Int.toNat_natCast, hlt, w0, ol2, Zl, eAi, hc1, decide_false, atE, setE]
      refine ih (4 - (i + 1)) _ _ _ (by omega) ⟨i + 1, by omega, rfl, rfl, ?_, rfl, rfl, ?_, rfl⟩
      · rw [e4]; rfl
      · simp; omega
    · have hc1 : n i > 0 := by omega
      rw [if_neg hc] at e4
      simp (disch := first | assumption | omega | (simp only [az]; done)) only [ru, eq_self, if_true, if_false, BEq.rfl, binI, AO.row?, splice, fillL, mmAll, loadV, storeV, zeros, Am.rowAt, Am.part, addOff, Nat.reduceAdd, Nat.reduceMul, Nat.reduceLeDiff, Nat.reduceSub, Nat.reduceLT, Int.reduceEq, Int.reduceLT, Int.reduceLE, Int.reduceGT, Int.reduceGE, Int.reduceAdd, Int.reduceSub, Int.reduceMul, Int.reduceNeg, Int.reduceToNat, reduceCtorEq, reduceIte, lenV_sl H.k, lenV_sl H.p, lenV_sl H.b, elem_kd H.k, elem_pr H.p, elem_in H.b, view_sl H.k, view_sl H.p, view_sl H.b, scalar_sl H.k, scalar_sl H.p, scalar_sl H.b, cells_sl H.k, cells_sl H.p, cells_sl H.b, pure_sl H.k, pure_sl H.p, pure_sl H.b, Int.toNat_natCast, hlt, w0, ol2, Zl, eAi, hc1, decide_true, atE, setE]
      refine ih (4 - (i + 1)) _ _ _ (by omega) ⟨i + 1, by omega, rfl, rfl, ?_, rfl, rfl, ?_, rfl⟩
      · rw [e4]; rfl
      · simp; omega
  obtain rfl : i = 4 := by omega
  simp (disch := first | assumption | omega | (simp only [az]; done)) only [ru, eq_self, if_true, if_false, BEq.rfl, binI, AO.row?, splice, fillL, mmAll, loadV, storeV, zeros, Am.rowAt, Am.part, addOff, Nat.reduceAdd, Nat.reduceMul, Nat.reduceLeDiff, Nat.reduceSub, Nat.reduceLT, Int.reduceEq, Int.reduceLT, Int.reduceLE, Int.reduceGT, Int.reduceGE, Int.reduceAdd, Int.reduceSub, Int.reduceMul, Int.reduceNeg, Int.reduceToNat, reduceCtorEq, reduceIte, hlt]
  rfl
set_option maxHeartbeats 2000000 in
theorem q100 (G : HG h) (x : List Int) (D : Int) (g : List AO) : Ro E 100 [.agg (lds h x), I D] g = some (I (sums 4 fun c => if dyP h.ks (prs h.ps x c) ≤ D then lbP (prs h.ps x c) else 0)) := by
  obtain ⟨Z, n, l, s, d, hZ, Zl, iv, _, en, _, ed, er⟩ := lds_rows G x
  have e1 := fun i => sums_succ (n := i) (f := fun c => if dyP h.ks (prs h.ps x c) ≤ D then lbP (prs h.ps x c) else 0)
  have sb := fun i => sums_bd (f := fun c => if dyP h.ks (prs h.ps x c) ≤ D then lbP (prs h.ps x c) else 0) (m := 240) (fun i => by have := prs_bd G x i; split <;> omega) i
  rw [← hZ]
  obtain ⟨S, hS⟩ : ∃ S : Nat → Int, S = fun n => sums n fun c => if dyP h.ks (prs h.ps x c) ≤ D then lbP (prs h.ps x c) else 0 := ⟨_, rfl⟩
  rw [show (sums 4 fun c => if dyP h.ks (prs h.ps x c) ≤ D then lbP (prs h.ps x c) else 0) = S 4 by rw [hS]]
  have eS : ∀ i, S (i + 1) = S i + (if d i ≤ D then l i else 0) := fun i => by
    rw [hS]; simp only; rw [e1, en, ed]
  have bS : ∀ i, 0 ≤ S i ∧ S i ≤ 240 * i := fun i => by rw [hS]; exact sb i
  have S0 : S 0 = 0 := by rw [hS]; rfl
  have n0 : ∀ c, 0 ≤ l c ∧ l c ≤ 240 := fun c => by rw [en]; have := prs_bd G x c; omega
  clear hS hZ e1 sb
  have tk : Z.take 16 = Z := List.take_of_length_le (by omega)
  refine Ro_of (es _ _ _ _) e100 ?_
  simp only [f100]
  simp (disch := first | assumption | omega | (simp only [az]; done)) only [ru, eq_self, if_true, if_false, BEq.rfl, binI, AO.row?, splice, fillL, mmAll, loadV, storeV, zeros, Am.rowAt, Am.part, addOff, Nat.reduceAdd, Nat.reduceMul, Nat.reduceLeDiff, Nat.reduceSub, Nat.reduceLT, Int.reduceEq, Int.reduceLT, Int.reduceLE, Int.reduceGT, Int.reduceGE, Int.reduceAdd, Int.reduceSub, Int.reduceMul, Int.reduceNeg, Int.reduceToNat, reduceCtorEq, reduceIte, rmr, Zl, tk, iv_sc iv, at2, atE, lenE]
  refine G_loop_ind (fun m ts hh mk => ∃ i : Nat, i ≤ 4 ∧ m = 4 - i ∧ ts.length = 22 ∧ ts.getD 1 .undef = I D ∧ ts.getD 5 .undef = I (S i) ∧ ts.getD 8 .undef = .agg Z ∧ ts.getD 9 .undef = I i ∧ g.length ≤ hh.length ∧ mk = []) ?_ 4 _ _ _ ?_
  rotate_left
  · exact ⟨0, by omega, rfl, rfl, rfl, by rw [S0]; rfl, rfl, rfl, by simp, rfl⟩
  rintro m ts hh mk ih ⟨i, hi', rfl, hl', q1, q5, q8, q9, ol2, rfl⟩
  rw [lit_all hl']
  simp only [lit0, litS, Nat.reduceAdd, q1, q5, q8, q9]
  simp (disch := first | assumption | omega | (simp only [az]; done)) only [ru, eq_self, if_true, if_false, BEq.rfl, binI, AO.row?, splice, fillL, mmAll, loadV, storeV, zeros, Am.rowAt, Am.part, addOff, Nat.reduceAdd, Nat.reduceMul, Nat.reduceLeDiff, Nat.reduceSub, Nat.reduceLT, Int.reduceEq, Int.reduceLT, Int.reduceLE, Int.reduceGT, Int.reduceGE, Int.reduceAdd, Int.reduceSub, Int.reduceMul, Int.reduceNeg, Int.reduceToNat, reduceCtorEq, reduceIte]
  by_cases hlt : (i : Int) < 4
  case pos =>
    have hi2 : i < 4 := by omega
    have eAi := er i hi2
    have b1 := bS i
    have w0 : (0 : Int) ≤ i := by omega
    have e4 := eS i
    have ni := n0 i
    by_cases hc : d i ≤ D
    · rw [if_pos hc] at e4
      simp (disch := first | assumption | omega | (simp only [az]; done)) only [ru, eq_self, if_true, if_false, BEq.rfl, binI, AO.row?, splice, fillL, mmAll, loadV, storeV, zeros, Am.rowAt, Am.part, addOff, Nat.reduceAdd, Nat.reduceMul, Nat.reduceLeDiff, Nat.reduceSub, Nat.reduceLT, Int.reduceEq, Int.reduceLT, Int.reduceLE, Int.reduceGT, Int.reduceGE, Int.reduceAdd, Int.reduceSub, Int.reduceMul, Int.reduceNeg, Int.reduceToNat, reduceCtorEq, reduceIte, Int.toNat_natCast, hlt, w0, ol2, Zl, eAi, hc, decide_true, atE, setE]
      refine ih (4 - (i + 1)) _ _ _ (by omega) ⟨i + 1, by omega, rfl, rfl, rfl, ?_, rfl, rfl, ?_, rfl⟩
      · rw [e4]; rfl
      · simp; omega
    · rw [if_neg hc, Int.add_zero] at e4
      simp (disch := first | assumption | omega | (simp only [az]; done)) only [ru, eq_self, if_true, if_false, BEq.rfl, binI, AO.row?, splice, fillL, mmAll, loadV, storeV, zeros, Am.rowAt, Am.part, addOff, Nat.reduceAdd, Nat.reduceMul, Nat.reduceLeDiff, Nat.reduceSub, Nat.reduceLT, Int.reduceEq, Int.reduceLT, Int.reduceLE, Int.reduceGT, Int.reduceGE, Int.reduceAdd, Int.reduceSub, Int.reduceMul, Int.reduceNeg, Int.reduceToNat, reduceCtorEq, reduceIte, Int.toNat_natCast, hlt, w0, ol2, Zl, eAi, hc, decide_false, atE, setE]
      refine ih (4 - (i + 1)) _ _ _ (by omega) ⟨i + 1, by omega, rfl, rfl, rfl, ?_, rfl, rfl, ?_, rfl⟩
      · rw [e4]; rfl
      · simp; omega
  obtain rfl : i = 4 := by omega
  simp (disch := first | assumption | omega | (simp only [az]; done)) only [ru, eq_self, if_true, if_false, BEq.rfl, binI, AO.row?, splice, fillL, mmAll, loadV, storeV, zeros, Am.rowAt, Am.part, addOff, Nat.reduceAdd, Nat.reduceMul, Nat.reduceLeDiff, Nat.reduceSub, Nat.reduceLT, Int.reduceEq, Int.reduceLT, Int.reduceLE, Int.reduceGT, Int.reduceGE, Int.reduceAdd, Int.reduceSub, Int.reduceMul, Int.reduceNeg, Int.reduceToNat, reduceCtorEq, reduceIte, hlt]
  rfl
theorem q104 (H : HsOk h k p b) (G : HG h) {c : Nat} (hc : h.bs.length = c + 1) (x : List Int) (g : List AO) : Ro E 104 [hsV h.fl k p b, .agg (lds h x)] g = some (I (ndP h.ks h.fl (prs h.ps x c))) := by
  have nb := G.nb
  have a1 := fun st => s111 H G (G.pp x c) (by have := prs_le G x c; omega) st
  have g0 := lds_get (h := h) (x := x) (i := c) (by omega)
  have ll := lds_len (h := h) (x := x)
  have iv := lds_iv (h := h) (x := x)
  simp only [hsV] at a1
  obtain ⟨A, hA⟩ : ∃ A, A = ldc h.ks (prs h.ps x c) := ⟨_, rfl⟩
  have Al : A.length = 4 := by rw [hA]; rfl
  have Ai : IvL A := by rw [hA]; exact ldc_iv
  obtain ⟨Z, hZ⟩ : ∃ Z, Z = lds h x := ⟨_, rfl⟩
  rw [← hA] at a1
  rw [← hA, ← hZ] at g0
  rw [← hZ] at ll iv ⊢
  have tk : Z.take 16 = Z := List.take_of_length_le (by omega)
  have c1 : (h.bs.length : Int) - 1 = c := by omega
  have c0 : (0 : Int) ≤ c := by omega
  have c4 : (c : Int) < 4 := by omega
  refine Ro_of (es _ _ _ _) e104 ?_
  simp only [f104, hsV]
  have at3 : ∀ a b : AO, (g ++ [a] ++ [b])[g.length]? = some a := fun a b => by simp
  simp (disch := first | assumption | omega | (simp only [az]; done)) only [ru, eq_self, if_true, if_false, BEq.rfl, binI, AO.row?, splice, fillL, mmAll, loadV, storeV, zeros, Am.rowAt, Am.part, addOff, Nat.reduceAdd, Nat.reduceMul, Nat.reduceLeDiff, Nat.reduceSub, Nat.reduceLT, Int.reduceEq, Int.reduceLT, Int.reduceLE, Int.reduceGT, Int.reduceGE, Int.reduceAdd, Int.reduceSub, Int.reduceMul, Int.reduceNeg, Int.reduceToNat, reduceCtorEq, reduceIte, lenV_sl H.k, lenV_sl H.p, lenV_sl H.b, elem_kd H.k, elem_pr H.p, elem_in H.b, view_sl H.k, view_sl H.p, view_sl H.b, scalar_sl H.k, scalar_sl H.p, scalar_sl H.b, cells_sl H.k, cells_sl H.p, cells_sl H.b, pure_sl H.k, pure_sl H.p, pure_sl H.b, Int.toNat_natCast, rmr, c1, c0, c4, ll, tk, g0, Al, iv_sc iv, iv_sc Ai, iv_view Ai, iv_pure Ai, at2, at3, atE, lenE, a1]
  rfl
theorem s102 (H : HsOk h k p b) (G : HG h) (st : Bool) : Iso E 102 [hsV h.fl k p b] st = some (I h.all) := by
  have np := G.np
  refine Iso_of (es _ _ _ _) e102 ?_
  simp only [f102, hsV]
  simp (disch := first | assumption | omega | (simp only [az]; done)) only [ru, eq_self, if_true, if_false, BEq.rfl, binI, AO.row?, splice, fillL, mmAll, loadV, storeV, zeros, Am.rowAt, Am.part, addOff, Nat.reduceAdd, Nat.reduceMul, Nat.reduceLeDiff, Nat.reduceSub, Nat.reduceLT, Int.reduceEq, Int.reduceLT, Int.reduceLE, Int.reduceGT, Int.reduceGE, Int.reduceAdd, Int.reduceSub, Int.reduceMul, Int.reduceNeg, Int.reduceToNat, reduceCtorEq, reduceIte, lenV_sl H.k, lenV_sl H.p, lenV_sl H.b, elem_kd H.k, elem_pr H.p, elem_in H.b, view_sl H.k, view_sl H.p, view_sl H.b, scalar_sl H.k, scalar_sl H.p, scalar_sl H.b, cells_sl H.k, cells_sl H.p, cells_sl H.b, pure_sl H.k, pure_sl H.p, pure_sl H.b, Int.toNat_natCast]
  refine G_loop_ind (fun m ts hh mk => ∃ (i : Nat) (J : List AO), i ≤ h.ps.length ∧ m = h.ps.length - i ∧ ts.length = 19 ∧ ts.getD 3 .undef = I (lbP (h.ps.take i)) ∧ ts.getD 7 .undef = p ∧ ts.getD 8 .undef = I h.ps.length ∧ ts.getD 9 .undef = I i ∧ hh = HHC h k p b :: J ∧ mk = []) ?_ _ _ _ _ ⟨0, [], Nat.zero_le _, rfl, rfl, rfl, rfl, rfl, rfl, rfl, rfl⟩
  rintro m ts hh mk ih ⟨i, J, hi', rfl, hl', q3, q7, q8, q9, rfl, rfl⟩
  rw [lit_all hl']
  simp only [lit0, litS, Nat.reduceAdd, q3, q7, q8, q9]
  simp (disch := first | assumption | omega | (simp only [az]; done)) only [ru, eq_self, if_true, if_false, BEq.rfl, binI, AO.row?, splice, fillL, mmAll, loadV, storeV, zeros, Am.rowAt, Am.part, addOff, Nat.reduceAdd, Nat.reduceMul, Nat.reduceLeDiff, Nat.reduceSub, Nat.reduceLT, Int.reduceEq, Int.reduceLT, Int.reduceLE, Int.reduceGT, Int.reduceGE, Int.reduceAdd, Int.reduceSub, Int.reduceMul, Int.reduceNeg, Int.reduceToNat, reduceCtorEq, reduceIte]
  by_cases hlt : (i : Int) < h.ps.length
  case pos =>
    have hi2 : i < h.ps.length := by omega
    have e1 : lbP (h.ps.take (i + 1)) = lbP (h.ps.take i) + (h.ps.getD i default).p := by rw [take_snoc (d := default) hi2, lbP_snoc]
    have b1 := lb_bd (l := h.ps.take i) (G.pg.sub fun q hq => List.mem_of_mem_take hq)
    have b2 := lb_bd (l := h.ps.take (i + 1)) (G.pg.sub fun q hq => List.mem_of_mem_take hq)
    have t1 := List.length_take_of_le (show i ≤ h.ps.length by omega)
    have t2 := List.length_take_of_le (show i + 1 ≤ h.ps.length by omega)
    rw [t1] at b1
    rw [t2, e1] at b2
    obtain ⟨z, hz⟩ : ∃ z, z = lbP (h.ps.take i) := ⟨_, rfl⟩
    obtain ⟨y, hy⟩ : ∃ y, y = h.ps.getD i default := ⟨_, rfl⟩
    rw [← hz, ← hy] at b2 e1
    rw [← hz] at b1 ⊢
    simp (disch := first | assumption | omega | (simp only [az]; done)) only [ru, eq_self, if_true, if_false, BEq.rfl, binI, AO.row?, splice, fillL, mmAll, loadV, storeV, zeros, Am.rowAt, Am.part, addOff, Nat.reduceAdd, Nat.reduceMul, Nat.reduceLeDiff, Nat.reduceSub, Nat.reduceLT, Int.reduceEq, Int.reduceLT, Int.reduceLE, Int.reduceGT, Int.reduceGE, Int.reduceAdd, Int.reduceSub, Int.reduceMul, Int.reduceNeg, Int.reduceToNat, reduceCtorEq, reduceIte, lenV_sl H.k, lenV_sl H.p, lenV_sl H.b, elem_kd H.k, elem_pr H.p, elem_in H.b, view_sl H.k, view_sl H.p, view_sl H.b, scalar_sl H.k, scalar_sl H.p, scalar_sl H.b, cells_sl H.k, cells_sl H.p, cells_sl H.b, pure_sl H.k, pure_sl H.p, pure_sl H.b, Int.toNat_natCast, hlt, ← hy]
    refine ih (h.ps.length - (i + 1)) _ _ _ (by omega) ⟨i + 1, _, by omega, rfl, rfl, ?_, rfl, rfl, rfl, rfl, rfl⟩
    rw [e1]; rfl
  obtain rfl : i = h.ps.length := by omega
  rw [List.take_length]
  simp (disch := first | assumption | omega | (simp only [az]; done)) only [ru, eq_self, if_true, if_false, BEq.rfl, binI, AO.row?, splice, fillL, mmAll, loadV, storeV, zeros, Am.rowAt, Am.part, addOff, Nat.reduceAdd, Nat.reduceMul, Nat.reduceLeDiff, Nat.reduceSub, Nat.reduceLT, Int.reduceEq, Int.reduceLT, Int.reduceLE, Int.reduceGT, Int.reduceGE, Int.reduceAdd, Int.reduceSub, Int.reduceMul, Int.reduceNeg, Int.reduceToNat, reduceCtorEq, reduceIte, hlt]
  rfl
theorem s21 (H : HsOk h k p b) {l : List Int} {v : AV} (V : IsSl 1 intL l v) (hl : l.length ≤ 1000) (st : Bool) : Iso E 21 [hsV h.fl k p b, v] st = some (ansN (askS h.valid (risB l 0 (h.ps.length - 1))) (slP h.ks h.fl (h.pts l))) := by
  have a1 := fun st => s19 H st
  simp only [hsV] at a1
  refine Iso_of (es _ _ _ _) e21 ?_
  simp only [f21, hsV, ansN]
  cases hv : h.valid
  · simp (disch := first | assumption | omega | (simp only [az]; done)) only [ru, eq_self, if_true, if_false, BEq.rfl, binI, AO.row?, splice, fillL, mmAll, loadV, storeV, zeros, Am.rowAt, Am.part, addOff, Nat.reduceAdd, Nat.reduceMul, Nat.reduceLeDiff, Nat.reduceSub, Nat.reduceLT, Int.reduceEq, Int.reduceLT, Int.reduceLE, Int.reduceGT, Int.reduceGE, Int.reduceAdd, Int.reduceSub, Int.reduceMul, Int.reduceNeg, Int.reduceToNat, reduceCtorEq, reduceIte, lenV_sl H.k, lenV_sl H.p, lenV_sl H.b, elem_kd H.k, elem_pr H.p, elem_in H.b, view_sl H.k, view_sl H.p, view_sl H.b, scalar_sl H.k, scalar_sl H.p, scalar_sl H.b, cells_sl H.k, cells_sl H.p, cells_sl H.b, pure_sl H.k, pure_sl H.p, pure_sl H.b, Int.toNat_natCast, a1, hv, vE, askS, if_false, Bool.false_eq_true]
  have G : HG h := valid_iff.1 hv
  have a2 := fun st => s67 H V hl st
  simp only [hsV] at a2
  cases hr : risB l 0 (h.ps.length - 1)
  · simp (disch := first | assumption | omega | (simp only [az]; done)) only [ru, eq_self, if_true, if_false, BEq.rfl, binI, AO.row?, splice, fillL, mmAll, loadV, storeV, zeros, Am.rowAt, Am.part, addOff, Nat.reduceAdd, Nat.reduceMul, Nat.reduceLeDiff, Nat.reduceSub, Nat.reduceLT, Int.reduceEq, Int.reduceLT, Int.reduceLE, Int.reduceGT, Int.reduceGE, Int.reduceAdd, Int.reduceSub, Int.reduceMul, Int.reduceNeg, Int.reduceToNat, reduceCtorEq, reduceIte, lenV_sl H.k, lenV_sl H.p, lenV_sl H.b, elem_kd H.k, elem_pr H.p, elem_in H.b, view_sl H.k, view_sl H.p, view_sl H.b, scalar_sl H.k, scalar_sl H.p, scalar_sl H.b, cells_sl H.k, cells_sl H.p, cells_sl H.b, pure_sl H.k, pure_sl H.p, pure_sl H.b, Int.toNat_natCast, lenV_sl V, elem_in V, view_sl V, scalar_sl V, cells_sl V, pure_sl V, Int.toNat_natCast, a1, a2, hr, hv, vE, askS, if_true, if_false, Bool.not_false, Bool.false_eq_true]
  have L := risB_in hr
  have a3 := fun st => s69 H G (l0 := []) (fun q hq => by cases hq) (by simp) V hl L st
  have a4 := fun st => s68 H G (pts_pg G l) (by rw [pts_len]; exact hl) st
  rw [List.nil_append] at a3
  have l0 : ldc h.ks [] = [I 0, I 0, I 0, I 0] := rfl
  rw [l0] at a3
  simp only [hsV] at a3 a4
  obtain ⟨A, hA⟩ : ∃ A, A = ldc h.ks (h.pts l) := ⟨_, rfl⟩
  have Ai : IvL A := by rw [hA]; exact ldc_iv
  rw [← hA] at a3 a4
  simp (disch := first | assumption | omega | (simp only [az]; done)) only [ru, eq_self, if_true, if_false, BEq.rfl, binI, AO.row?, splice, fillL, mmAll, loadV, storeV, zeros, Am.rowAt, Am.part, addOff, Nat.reduceAdd, Nat.reduceMul, Nat.reduceLeDiff, Nat.reduceSub, Nat.reduceLT, Int.reduceEq, Int.reduceLT, Int.reduceLE, Int.reduceGT, Int.reduceGE, Int.reduceAdd, Int.reduceSub, Int.reduceMul, Int.reduceNeg, Int.reduceToNat, reduceCtorEq, reduceIte, lenV_sl H.k, lenV_sl H.p, lenV_sl H.b, elem_kd H.k, elem_pr H.p, elem_in H.b, view_sl H.k, view_sl H.p, view_sl H.b, scalar_sl H.k, scalar_sl H.p, scalar_sl H.b, cells_sl H.k, cells_sl H.p, cells_sl H.b, pure_sl H.k, pure_sl H.p, pure_sl H.b, Int.toNat_natCast, lenV_sl V, elem_in V, view_sl V, scalar_sl V, cells_sl V, pure_sl V, Int.toNat_natCast, a1, a2, a3, a4, hr, hv, vE, askS, if_true, iv_view Ai, iv_pure Ai, iv_sc Ai, Bool.not_true]
theorem s23 (H : HsOk h k p b) {x : List Int} {v : AV} (V : IsSl 1 intL x v) (hl : x.length ≤ 1000) (st : Bool) : Iso E 23 [hsV h.fl k p b, v] st = some (.tup [Bo (h.valid && h.isP x), I (vE h.valid)]) := by
  have a1 := fun st => s19 H st
  simp only [hsV] at a1
  refine Iso_of (es _ _ _ _) e23 ?_
  simp only [f23, hsV]
  cases hv : h.valid
  · simp (disch := first | assumption | omega | (simp only [az]; done)) only [ru, eq_self, if_true, if_false, BEq.rfl, binI, AO.row?, splice, fillL, mmAll, loadV, storeV, zeros, Am.rowAt, Am.part, addOff, Nat.reduceAdd, Nat.reduceMul, Nat.reduceLeDiff, Nat.reduceSub, Nat.reduceLT, Int.reduceEq, Int.reduceLT, Int.reduceLE, Int.reduceGT, Int.reduceGE, Int.reduceAdd, Int.reduceSub, Int.reduceMul, Int.reduceNeg, Int.reduceToNat, reduceCtorEq, reduceIte, lenV_sl H.k, lenV_sl H.p, lenV_sl H.b, elem_kd H.k, elem_pr H.p, elem_in H.b, view_sl H.k, view_sl H.p, view_sl H.b, scalar_sl H.k, scalar_sl H.p, scalar_sl H.b, cells_sl H.k, cells_sl H.p, cells_sl H.b, pure_sl H.k, pure_sl H.p, pure_sl H.b, Int.toNat_natCast, a1, hv, vE, if_false, Bool.false_eq_true, Bool.false_and]
  have G : HG h := valid_iff.1 hv
  obtain ⟨j, hj, a2⟩ := s72 H G V hl
  simp only [hsV] at a2
  obtain ⟨Z, hZ⟩ : ∃ Z, Z = lds h (x.take j) := ⟨_, rfl⟩
  have Zl : Z.length = 16 := by rw [hZ]; exact lds_len
  have Zi : IvL Z := by rw [hZ]; exact lds_iv
  have tk : Z.take 16 = Z := List.take_of_length_le (by omega)
  rw [← hZ] at a2
  simp (disch := first | assumption | omega | (simp only [az]; done)) only [ru, eq_self, if_true, if_false, BEq.rfl, binI, AO.row?, splice, fillL, mmAll, loadV, storeV, zeros, Am.rowAt, Am.part, addOff, Nat.reduceAdd, Nat.reduceMul, Nat.reduceLeDiff, Nat.reduceSub, Nat.reduceLT, Int.reduceEq, Int.reduceLT, Int.reduceLE, Int.reduceGT, Int.reduceGE, Int.reduceAdd, Int.reduceSub, Int.reduceMul, Int.reduceNeg, Int.reduceToNat, reduceCtorEq, reduceIte, lenV_sl H.k, lenV_sl H.p, lenV_sl H.b, elem_kd H.k, elem_pr H.p, elem_in H.b, view_sl H.k, view_sl H.p, view_sl H.b, scalar_sl H.k, scalar_sl H.p, scalar_sl H.b, cells_sl H.k, cells_sl H.p, cells_sl H.b, pure_sl H.k, pure_sl H.p, pure_sl H.b, Int.toNat_natCast, lenV_sl V, elem_in V, view_sl V, scalar_sl V, cells_sl V, pure_sl V, Int.toNat_natCast, a1, a2, hv, Zl, tk, iv_sc Zi, iv_view Zi, vE, if_true, Bool.true_and]
theorem s25 (H : HsOk h k p b) {x : List Int} {v : AV} (V : IsSl 1 intL x v) (hl : x.length ≤ 1000) (c : Int) (st : Bool) : Iso E 25 [hsV h.fl k p b, v, I c] st =
    some (ansB (askS h.valid (h.isP x && inR c 0 (h.bs.length - 1))) (lbP (prs h.ps x c)) (slP h.ks h.fl (prs h.ps x c)) (dyP h.ks (prs h.ps x c))) := by
  have a1 := fun st => s19 H st
  have a3 := fun n st => s73 H n st
  simp only [hsV] at a1 a3
  refine Iso_of (es _ _ _ _) e25 ?_
  simp only [f25, hsV, ansB]
  cases hv : h.valid
  · simp (disch := first | assumption | omega | (simp only [az]; done)) only [ru, eq_self, if_true, if_false, BEq.rfl, binI, AO.row?, splice, fillL, mmAll, loadV, storeV, zeros, Am.rowAt, Am.part, addOff, Nat.reduceAdd, Nat.reduceMul, Nat.reduceLeDiff, Nat.reduceSub, Nat.reduceLT, Int.reduceEq, Int.reduceLT, Int.reduceLE, Int.reduceGT, Int.reduceGE, Int.reduceAdd, Int.reduceSub, Int.reduceMul, Int.reduceNeg, Int.reduceToNat, reduceCtorEq, reduceIte, lenV_sl H.k, lenV_sl H.p, lenV_sl H.b, elem_kd H.k, elem_pr H.p, elem_in H.b, view_sl H.k, view_sl H.p, view_sl H.b, scalar_sl H.k, scalar_sl H.p, scalar_sl H.b, cells_sl H.k, cells_sl H.p, cells_sl H.b, pure_sl H.k, pure_sl H.p, pure_sl H.b, Int.toNat_natCast, a1, hv, vE, askS, if_false, Bool.false_eq_true, fin4]
  have G : HG h := valid_iff.1 hv
  have nb := G.nb
  obtain ⟨j, hj, a2⟩ := s72 H G V hl
  simp only [hsV] at a2
  cases hp : h.isP x
  · obtain ⟨Z, hZ⟩ : ∃ Z, Z = lds h (x.take j) := ⟨_, rfl⟩
    have Zl : Z.length = 16 := by rw [hZ]; exact lds_len
    have Zi : IvL Z := by rw [hZ]; exact lds_iv
    have tk : Z.take 16 = Z := List.take_of_length_le (by omega)
    rw [← hZ, hp] at a2
    simp (disch := first | assumption | omega | (simp only [az]; done)) only [ru, eq_self, if_true, if_false, BEq.rfl, binI, AO.row?, splice, fillL, mmAll, loadV, storeV, zeros, Am.rowAt, Am.part, addOff, Nat.reduceAdd, Nat.reduceMul, Nat.reduceLeDiff, Nat.reduceSub, Nat.reduceLT, Int.reduceEq, Int.reduceLT, Int.reduceLE, Int.reduceGT, Int.reduceGE, Int.reduceAdd, Int.reduceSub, Int.reduceMul, Int.reduceNeg, Int.reduceToNat, reduceCtorEq, reduceIte, lenV_sl H.k, lenV_sl H.p, lenV_sl H.b, elem_kd H.k, elem_pr H.p, elem_in H.b, view_sl H.k, view_sl H.p, view_sl H.b, scalar_sl H.k, scalar_sl H.p, scalar_sl H.b, cells_sl H.k, cells_sl H.p, cells_sl H.b, pure_sl H.k, pure_sl H.p, pure_sl H.b, Int.toNat_natCast, lenV_sl V, elem_in V, view_sl V, scalar_sl V, cells_sl V, pure_sl V, Int.toNat_natCast, a1, a2, hv, Zl, tk, gUn, iv_sc Zi, iv_view Zi, vE, askS, if_true, if_false, Bool.false_and, Bool.false_eq_true, Bool.not_false, fin4]
  obtain rfl := hj hp
  rw [List.take_length, hp] at a2
  cases hc : inR c 0 (h.bs.length - 1)
  · obtain ⟨Z, hZ⟩ : ∃ Z, Z = lds h x := ⟨_, rfl⟩
    have Zl : Z.length = 16 := by rw [hZ]; exact lds_len
    have Zi : IvL Z := by rw [hZ]; exact lds_iv
    have tk : Z.take 16 = Z := List.take_of_length_le (by omega)
    rw [← hZ] at a2
    simp (disch := first | assumption | omega | (simp only [az]; done)) only [ru, eq_self, if_true, if_false, BEq.rfl, binI, AO.row?, splice, fillL, mmAll, loadV, storeV, zeros, Am.rowAt, Am.part, addOff, Nat.reduceAdd, Nat.reduceMul, Nat.reduceLeDiff, Nat.reduceSub, Nat.reduceLT, Int.reduceEq, Int.reduceLT, Int.reduceLE, Int.reduceGT, Int.reduceGE, Int.reduceAdd, Int.reduceSub, Int.reduceMul, Int.reduceNeg, Int.reduceToNat, reduceCtorEq, reduceIte, lenV_sl H.k, lenV_sl H.p, lenV_sl H.b, elem_kd H.k, elem_pr H.p, elem_in H.b, view_sl H.k, view_sl H.p, view_sl H.b, scalar_sl H.k, scalar_sl H.p, scalar_sl H.b, cells_sl H.k, cells_sl H.p, cells_sl H.b, pure_sl H.k, pure_sl H.p, pure_sl H.b, Int.toNat_natCast, lenV_sl V, elem_in V, view_sl V, scalar_sl V, cells_sl V, pure_sl V, Int.toNat_natCast, a1, a2, a3, hc, hv, Zl, tk, gUn, iv_sc Zi, iv_view Zi, vE, askS, if_true, if_false, Bool.true_and, Bool.false_eq_true, Bool.not_false, Bool.not_true, fin4]
  have hcr := inR_iff.1 hc
  obtain ⟨c, rfl⟩ : ∃ d : Nat, c = d := ⟨c.toNat, by omega⟩
  obtain ⟨Z, n, l, s, d, hZ, Zl, Zi, en, el, es', ed, er⟩ := lds_rows G x
  have a4 := fun st => s68 H G (G.pp x c) (by have := prs_le G x c; omega) st
  simp only [hsV, ldc] at a4
  have er := er c (by omega)
  rw [← en, ← el, ← es', ← ed] at a4
  rw [← el, ← ed]
  rw [← hZ] at a2
  have tk : Z.take 16 = Z := List.take_of_length_le (by omega)
  have c0 : (0 : Int) ≤ c := by omega
  have c4 : (c : Int) < 4 := by omega
  simp (disch := first | assumption | omega | (simp only [az]; done)) only [ru, eq_self, if_true, if_false, BEq.rfl, binI, AO.row?, splice, fillL, mmAll, loadV, storeV, zeros, Am.rowAt, Am.part, addOff, Nat.reduceAdd, Nat.reduceMul, Nat.reduceLeDiff, Nat.reduceSub, Nat.reduceLT, Int.reduceEq, Int.reduceLT, Int.reduceLE, Int.reduceGT, Int.reduceGE, Int.reduceAdd, Int.reduceSub, Int.reduceMul, Int.reduceNeg, Int.reduceToNat, reduceCtorEq, reduceIte, lenV_sl H.k, lenV_sl H.p, lenV_sl H.b, elem_kd H.k, elem_pr H.p, elem_in H.b, view_sl H.k, view_sl H.p, view_sl H.b, scalar_sl H.k, scalar_sl H.p, scalar_sl H.b, cells_sl H.k, cells_sl H.p, cells_sl H.b, pure_sl H.k, pure_sl H.p, pure_sl H.b, Int.toNat_natCast, lenV_sl V, elem_in V, view_sl V, scalar_sl V, cells_sl V, pure_sl V, Int.toNat_natCast, a1, a2, a3, a4, hc, hv, c0, c4, er, Zl, tk, gUn, iv_sc Zi, iv_view Zi, vE, askS, if_true, if_false, Bool.true_and, Bool.false_eq_true, Bool.not_false, Bool.not_true, fin4]
end
end Go.Proofs.Ytcdedbpmjhjehaa.S

/-
The program's packings: a range over a function that yields them all, in one list that is written in place.
-/
namespace Go.Proofs.Ytcdedbpmjhjehaa.S
open Go Go.Am Go.Proofs.Ytcdedbpmjhjehaa.T
set_option maxRecDepth 100000
set_option linter.unusedSimpArgs false
set_option linter.unusedVariables false

/-- a list that lies in a row with room -/
def Lq (n : Nat) (g : List AO) (q : Nat) (F : List Int) : Prop := ∃ C, g[q]? = some (.cells C false) ∧ C.length = n ∧ C.take F.length = F.flatMap intL
/-- the same heap, up to an object -/
structure Lo (o : Nat) (g g' : List AO) : Prop where
  l : g.length ≤ g'.length
  k : ∀ j, j ≤ o → g'[j]? = g[j]?
/-- above it, the same but for the list -/
structure Hi (o q : Nat) (g g' : List AO) : Prop where
  l : g.length ≤ g'.length
  k : ∀ j, o < j → j < g.length → j ≠ q → g'[j]? = g[j]?
theorem Hi.trans {o q : Nat} {a b c : List AO} (h : Hi o q a b) (h' : Hi o q b c) : Hi o q a c := ⟨Nat.le_trans h.l h'.l, fun j h1 h2 h3 => (h'.k j h1 (Nat.lt_of_lt_of_le h2 h.l) h3).trans (h.k j h1 h2 h3)⟩
theorem Hi.of {o q : Nat} {g g' : List AO} (h : Fr g g') : Hi o q g g' := ⟨h.l, fun j _ hj _ => h.k j hj⟩
theorem Hi.ofk {o q : Nat} {g g' : List AO} (h : Fk (o + 1) g g') : Hi o q g g' := ⟨h.l, fun j h1 h2 _ => h.k j h1 h2⟩
theorem Hi.at {o q : Nat} {g g' : List AO} (F : Hi o q g g') {j : Nat} (h1 : o < j) (h3 : j ≠ q) {x : AO} (hx : g[j]? = some x) : g'[j]? = some x := by rw [F.k j h1 (List.getElem?_eq_some_iff.1 hx).1 h3]; exact hx
theorem Lq.fr {n : Nat} {g g' : List AO} {q : Nat} {F : List Int} (L : Lq n g q F) (h : Fr g g') : Lq n g' q F := by
  obtain ⟨C, h1, h2, h3⟩ := L; exact ⟨C, h.at h1, h2, h3⟩
theorem Lq.fk {n o : Nat} {g g' : List AO} {q : Nat} {F : List Int} (L : Lq n g q F) (h : Fk (o + 1) g g') (ho : o < q) : Lq n g' q F := by
  obtain ⟨C, h1, h2, h3⟩ := L; exact ⟨C, h.at ho h1, h2, h3⟩
theorem Lq.init {n : Nat} {g : List AO} {q : Nat} {F : List Int} {c : Int} (L : Lq n g q (F ++ [c])) : Lq n g q F := by
  obtain ⟨C, h1, h2, h3⟩ := L
  refine ⟨C, h1, h2, ?_⟩
  have e : C.take F.length = (C.take (F ++ [c]).length).take F.length := by rw [List.take_take]; congr 1; simp
  have e2 : (F.flatMap intL).length = F.length := flat1 F
  rw [e, h3, List.flatMap_append, ← e2, List.take_left]
theorem Lq.lt {n : Nat} {g : List AO} {q : Nat} {F : List Int} (L : Lq n g q F) : q < g.length := by
  obtain ⟨C, h1, _, _⟩ := L; exact (List.getElem?_eq_some_iff.1 h1).1
/-- an append in place -/
theorem Lq.put {n lim : Nat} {g : List AO} {q : Nat} {F : List Int} (L : Lq n g q F) (hF : F.length < n) (hl : lim ≤ q) (c : Int) :
    ∃ g', wApp lim g 1 (.mr 1 q 0 F.length n) (.cs 1 1 [I c]) = some (.mr 1 q 0 (F.length + 1) n, g') ∧ g'.length = g.length ∧ (∀ j, j ≠ q → g'[j]? = g[j]?) ∧ Lq n g' q (F ++ [c]) := by
  obtain ⟨C, h1, h2, h3⟩ := L
  refine ⟨_, wApp_ok (n := 1) (xs := [I c]) (by omega) rfl rfl rfl (by omega) h1 (by simp; omega) hl rfl, by simp, fun j hj => List.getElem?_set_ne (Ne.symm hj), ?_⟩
  refine ⟨_, List.getElem?_set_self (List.getElem?_eq_some_iff.1 h1).1, ?_, ?_⟩
  · simp only [splice, List.length_append, List.length_take, List.length_drop, List.length_cons, List.length_nil]; omega
  · have e2 : (C.take (F.length * 1)).length = F.length := by rw [List.length_take]; omega
    have e4 : (C.take (F.length * 1) ++ ([I c] ++ C.drop (F.length * 1 + [I c].length))).take (F ++ [c]).length = C.take (F.length * 1) ++ [I c] := by
      rw [List.take_append, List.take_of_length_le (by simp; omega), e2]
      simp
    simp only [splice]
    first
    | rw [e4, Nat.mul_one, h3, List.flatMap_append]; rfl
    | rw [List.append_assoc, e4, Nat.mul_one, h3, List.flatMap_append]; rfl

theorem exOp_wAppM {call : Am.Callee} {lim : Nat} {pl : Option Nat} {ρ : Opd → AV} {h : List AO} {e r : Nat} {s x : Opd} : exOp call lim pl ρ h (.w (.app e s x (some r))) = match ρ s with
    | .mr e' o off len room => if objIsA o (ρ (.t r)) = true then wApp lim h e (.mr e' o off len room) (ρ x) else none
    | _ => none := by
  cases hs : ρ s with
  | mr e' o off len room =>
    simp only
    by_cases hr : objIsA o (ρ (.t r)) = true
    · rw [if_pos hr]
      simp only [exOp, wex, wApp, optIs, and_true, hs]
      cases lenOf (ρ x) <;> cases Am.rowOf h (ρ x) <;> first | rfl | simp only [hr, and_true]
    · rw [if_neg hr]
      simp only [exOp, wex, wApp, optIs, and_true, hs]
      cases lenOf (ρ x) <;> cases Am.rowOf h (ρ x) <;> first | rfl | simp only [hr, and_false, if_false, Bool.false_eq_true]
  | _ => simp only [exOp, wex, hs]
section
variable {h : Hs} {k p b : AV}
theorem enP_zero {ok : List Int → Bool} {cs : List Int} {d : Nat} {F : List Int} : enP ok cs d F 0 0 = [] := rfl
theorem ens_no {ok : List Int → Bool} {cs : List Int} {d : Nat} {F : List Int} (hn : ok F = false) : ens ok cs d F = [] := by
  cases d <;> simp [ens, hn]
set_option maxHeartbeats 4000000 in
theorem r112 (H : HsOk h k p b) (G : HG h) {o q lim : Nat} (hlim : lim ≤ o) (hoq : o < q) {P : List (List Int) → List AO → Prop} {Q : List AO → Prop}
    (hP : ∀ D g g', P D g → Lo o g g' → P D g')
    (hstep : ∀ D F g, Lq h.ps.length g q F → P D g → Pkg h F → ∃ t g', R E (.rnd o) [.mr 1 q 0 F.length h.ps.length, .agg (lds h F)] g lim = some (Bo t, g') ∧ ((t = true ∧ P (D ++ [F]) g' ∧ Fk (o + 1) g g') ∨ (t = false ∧ Q g'))) :
    ∀ (d : Nat) (F : List Int) (D : List (List Int)) (g : List AO), F.length + d = h.ps.length → (∀ c ∈ F, 0 ≤ c ∧ c < h.bs.length) → h.ft F = true → Lq h.ps.length g q F → P D g →
    ∃ t g', R E (.fn 112) [hsV h.fl k p b, .mr 1 q 0 F.length h.ps.length, .agg (lds h F), .yld o] g lim = some (Bo t, g') ∧ ((t = true ∧ P (D ++ ens h.ft (upto h.bs.length) d F) g' ∧ Hi o q g g' ∧ Lq h.ps.length g' q F) ∨ (t = false ∧ Q g')) := by
  have np := G.np; have nb := G.nb
  intro d
  induction d with
  | zero =>
    intro F D g hd hF hft L hp
    have hl : (F.length : Int) = h.ps.length := by omega
    obtain ⟨g2, hg2⟩ : ∃ g2 : List AO, g2 = g ++ [HHC h k p b] ++ [.cells (lds h F) false] := ⟨_, rfl⟩
    have fr : Fr g g2 := by rw [hg2, List.append_assoc]; exact Fr.app g _
    have lt := L.lt
    obtain ⟨t, g', hr, hp'⟩ := hstep D F g2 (L.fr fr) (hP _ _ _ hp ⟨fr.l, fun j hj => fr.k j (by omega)⟩) ⟨by omega, hF, hft⟩
    have ll := lds_len (h := h) (x := F)
    have iv := lds_iv (h := h) (x := F)
    obtain ⟨Z, hZ⟩ : ∃ Z, Z = lds h F := ⟨_, rfl⟩
    rw [← hZ] at ll iv hr ⊢
    rw [← hZ] at hg2
    have tk : Z.take 16 = Z := List.take_of_length_le (by omega)
    rw [hg2] at hr
    refine (fun x => ?_ : (∃ r g', R E (.fn 112) [hsV h.fl k p b, .mr 1 q 0 F.length h.ps.length, .agg Z, .yld o] g lim = some (r, g') ∧ (∃ t, r = Bo t ∧ ((t = true ∧ P (D ++ ens h.ft (upto h.bs.length) 0 F) g' ∧ Hi o q g g' ∧ Lq h.ps.length g' q F) ∨ (t = false ∧ Q g')))) → _) (R_of _ (es _ _ _ _) e112 ?_)
    · obtain ⟨r, g', hr, t, rfl, hh⟩ := x; exact ⟨t, g', hr, hh⟩
    simp only [f112, hsV]
    simp (disch := first | assumption | omega | (simp only [az]; done)) only [ru, eq_self, if_true, if_false, BEq.rfl, binI, AO.row?, splice, fillL, mmAll, loadV, storeV, zeros, Am.rowAt, Am.part, addOff, Nat.reduceAdd, Nat.reduceMul, Nat.reduceLeDiff, Nat.reduceSub, Nat.reduceLT, Int.reduceEq, Int.reduceLT, Int.reduceLE, Int.reduceGT, Int.reduceGE, Int.reduceAdd, Int.reduceSub, Int.reduceMul, Int.reduceNeg, Int.reduceToNat, reduceCtorEq, reduceIte, lenV_sl H.k, lenV_sl H.p, lenV_sl H.b, elem_kd H.k, elem_pr H.p, elem_in H.b, view_sl H.k, view_sl H.p, view_sl H.b, scalar_sl H.k, scalar_sl H.p, scalar_sl H.b, cells_sl H.k, cells_sl H.p, cells_sl H.b, pure_sl H.k, pure_sl H.p, pure_sl H.b, Int.toNat_natCast, rmr, hl, ll, tk, iv_sc iv, at2, atE, lenE, decide_true, exOp_callv0, hr]
    refine ⟨t, rfl, ?_⟩
    rcases hp' with ⟨e, h1, h2⟩ | h1
    · refine .inl ⟨e, ?_, (Hi.of fr).trans (Hi.ofk h2), (L.fr fr).fk h2 hoq⟩
      simp only [ens, hft, if_true]; exact h1
    · exact .inr h1
  | succ d ih =>
    intro F D g hd hF hft L hp
    have hl : ¬ (F.length : Int) = h.ps.length := by omega
    obtain ⟨g2, hg2⟩ : ∃ g2 : List AO, g2 = g ++ [HHC h k p b] ++ [.cells (lds h F) false] := ⟨_, rfl⟩
    have fr : Fr g g2 := by rw [hg2, List.append_assoc]; exact Fr.app g _
    have g20 : g2[g.length]? = some (HHC h k p b) := by rw [hg2]; simp
    have g21 : g2[g.length + 1]? = some (.cells (lds h F) false) := by rw [hg2]; simp
    have lt := L.lt
    have ll := lds_len (h := h) (x := F)
    have iv := lds_iv (h := h) (x := F)
    have put := fun (c : Nat) (hc : c < h.bs.length) st => s97 H G (x := F) (by omega) (c := c) hc st
    have fts := fun (c : Nat) (hc : c < h.bs.length) => ft_snoc G (x := F) (c := c) (by omega) hc hft
    have ihc := fun (c : Nat) => ih (F ++ [(c : Int)])
    simp only [List.length_append, List.length_singleton] at ihc
    simp only [hsV] at put ihc
    obtain ⟨Z, hZ⟩ : ∃ Z, Z = lds h F := ⟨_, rfl⟩
    rw [← hZ] at ll iv put g21 hg2 ⊢
    have tk : Z.take 16 = Z := List.take_of_length_le (by omega)
    refine (fun x => ?_ : (∃ r g', R E (.fn 112) [hsV h.fl k p b, .mr 1 q 0 F.length h.ps.length, .agg Z, .yld o] g lim = some (r, g') ∧ (∃ t, r = Bo t ∧ ((t = true ∧ P (D ++ ens h.ft (upto h.bs.length) (d + 1) F) g' ∧ Hi o q g g' ∧ Lq h.ps.length g' q F) ∨ (t = false ∧ Q g')))) → _) (R_of _ (es _ _ _ _) e112 ?_)
    · obtain ⟨r, g', hr, t, rfl, hh⟩ := x; exact ⟨t, g', hr, hh⟩
    simp only [f112, hsV]
    have at3 : ∀ a b : AO, (g ++ [a] ++ [b])[g.length]? = some a := fun a b => by simp
    simp (disch := first | assumption | omega | (simp only [az]; done)) only [ru, eq_self, if_true, if_false, BEq.rfl, binI, AO.row?, splice, fillL, mmAll, loadV, storeV, zeros, Am.rowAt, Am.part, addOff, Nat.reduceAdd, Nat.reduceMul, Nat.reduceLeDiff, Nat.reduceSub, Nat.reduceLT, Int.reduceEq, Int.reduceLT, Int.reduceLE, Int.reduceGT, Int.reduceGE, Int.reduceAdd, Int.reduceSub, Int.reduceMul, Int.reduceNeg, Int.reduceToNat, reduceCtorEq, reduceIte, lenV_sl H.k, lenV_sl H.p, lenV_sl H.b, elem_kd H.k, elem_pr H.p, elem_in H.b, view_sl H.k, view_sl H.p, view_sl H.b, scalar_sl H.k, scalar_sl H.p, scalar_sl H.b, cells_sl H.k, cells_sl H.p, cells_sl H.b, pure_sl H.k, pure_sl H.p, pure_sl H.b, Int.toNat_natCast, rmr, hl, ll, tk, iv_sc iv, at2, at3, atE, lenE, decide_false]
    rw [← hg2]
    refine G_loop_ind (fun m ts hk mk => ∃ (j : Nat), j ≤ h.bs.length ∧ m = h.bs.length - j ∧ Hi o q g hk ∧ Lq h.ps.length hk q F ∧ hk[g.length]? = some (HHC h k p b) ∧ hk[g.length + 1]? = some (.cells Z false) ∧ P (D ++ enP h.ft (upto h.bs.length) d F 0 j) hk ∧
      ts.length = 51 ∧ ts.getD 1 .undef = .mr 1 q 0 F.length h.ps.length ∧ ts.getD 3 .undef = .yld o ∧ ts.getD 4 .undef = .ptr g.length 0 ∧ ts.getD 6 .undef = .ptr (g.length + 1) 0 ∧ ts.getD 9 .undef = I F.length ∧ ts.getD 26 .undef = I h.bs.length ∧ ts.getD 27 .undef = I j ∧ mk = []) ?_ h.bs.length _ _ _ ?_
    rotate_left
    · exact ⟨0, Nat.zero_le _, rfl, Hi.of fr, L.fr fr, g20, g21, by rw [enP_zero, List.append_nil]; exact hP _ _ _ hp ⟨fr.l, fun j hj => fr.k j (by omega)⟩, rfl, rfl, rfl, rfl, rfl, rfl, rfl, rfl, rfl⟩
    rintro m ts hk mk ihk ⟨j, hj, rfl, hi, Lk, c0, c1, hpk, hl', q1, q3, q4, q6, q9, q26, q27, rfl⟩
    rw [lit_all hl']
    simp only [lit0, litS, Nat.reduceAdd, q1, q3, q4, q6, q9, q26, q27]
    simp (disch := first | assumption | omega | (simp only [az]; done)) only [ru, eq_self, if_true, if_false, BEq.rfl, binI, AO.row?, splice, fillL, mmAll, loadV, storeV, zeros, Am.rowAt, Am.part, addOff, Nat.reduceAdd, Nat.reduceMul, Nat.reduceLeDiff, Nat.reduceSub, Nat.reduceLT, Int.reduceEq, Int.reduceLT, Int.reduceLE, Int.reduceGT, Int.reduceGE, Int.reduceAdd, Int.reduceSub, Int.reduceMul, Int.reduceNeg, Int.reduceToNat, reduceCtorEq, reduceIte]
    by_cases hlt : (j : Int) < h.bs.length
    case neg =>
      obtain rfl : j = h.bs.length := by omega
      simp (disch := first | assumption | omega | (simp only [az]; done)) only [ru, eq_self, if_true, if_false, BEq.rfl, binI, AO.row?, splice, fillL, mmAll, loadV, storeV, zeros, Am.rowAt, Am.part, addOff, Nat.reduceAdd, Nat.reduceMul, Nat.reduceLeDiff, Nat.reduceSub, Nat.reduceLT, Int.reduceEq, Int.reduceLT, Int.reduceLE, Int.reduceGT, Int.reduceGE, Int.reduceAdd, Int.reduceSub, Int.reduceMul, Int.reduceNeg, Int.reduceToNat, reduceCtorEq, reduceIte, hlt]
      refine ⟨true, rfl, .inl ⟨rfl, ?_, hi, Lk⟩⟩
      simp only [ens, hft, if_true]
      simp only [enP, csL_zero] at hpk
      exact hpk
    have hj2 : j < h.bs.length := by omega
    have a1 := put j hj2
    have ef := fts j hj2
    rw [← ef] at a1
    have es2 := enP_succ (ok := h.ft) (cs := upto h.bs.length) (d := d) (F := F) (lo := 0) (k := j)
    rw [Int.zero_add] at es2
    have ihj := ihc j
    have Yl := lds_len (h := h) (x := F ++ [(j : Int)])
    have Yi := lds_iv (h := h) (x := F ++ [(j : Int)])
    obtain ⟨Y, hY⟩ : ∃ Y, Y = lds h (F ++ [(j : Int)]) := ⟨_, rfl⟩
    rw [← hY] at a1 ihj Yl Yi
    have tkY : Y.take 16 = Y := List.take_of_length_le (by omega)
    have m0 : g.length < hk.length := (List.getElem?_eq_some_iff.1 c0).1
    have m1 : g.length + 1 < hk.length := (List.getElem?_eq_some_iff.1 c1).1
    have lo : lim ≤ hk.length := by omega
    cases hf : h.ft (F ++ [(j : Int)])
    · rw [hf] at a1
      simp (disch := first | assumption | omega | (simp only [az]; done)) only [ru, eq_self, if_true, if_false, BEq.rfl, binI, AO.row?, splice, fillL, mmAll, loadV, storeV, zeros, Am.rowAt, Am.part, addOff, Nat.reduceAdd, Nat.reduceMul, Nat.reduceLeDiff, Nat.reduceSub, Nat.reduceLT, Int.reduceEq, Int.reduceLT, Int.reduceLE, Int.reduceGT, Int.reduceGE, Int.reduceAdd, Int.reduceSub, Int.reduceMul, Int.reduceNeg, Int.reduceToNat, reduceCtorEq, reduceIte, lenV_sl H.k, lenV_sl H.p, lenV_sl H.b, elem_kd H.k, elem_pr H.p, elem_in H.b, view_sl H.k, view_sl H.p, view_sl H.b, scalar_sl H.k, scalar_sl H.p, scalar_sl H.b, cells_sl H.k, cells_sl H.p, cells_sl H.b, pure_sl H.k, pure_sl H.p, pure_sl H.b, Int.toNat_natCast, rmr, hlt, lo, ll, tk, iv_sc iv, iv_view iv, iv_pure iv, c0, c1, a1, Yl, tkY, iv_sc Yi, gUn, at_ap m0, at_ap m1, atE, setE, lenE, Bool.not_false]
      have fr1 := Fr.app hk [AO.cells Y false]
      refine ihk (h.bs.length - (j + 1)) _ _ _ (by omega) ⟨j + 1, by omega, rfl, hi.trans (Hi.of fr1), Lk.fr fr1, fr1.at c0, fr1.at c1, ?_, rfl, rfl, rfl, rfl, rfl, rfl, rfl, rfl, rfl⟩
      rw [es2, ens_no hf, List.append_nil]
      exact hP _ _ _ hpk ⟨fr1.l, fun i hi => fr1.k i (by omega)⟩
    rw [hf] at a1
    have fr1 := Fr.app hk [AO.cells Y false]
    obtain ⟨g3, hw, g3l, g3k, L3⟩ := (Lk.fr fr1).put (lim := lim) (by omega) (by omega) (j : Int)
    have d0 : g3[g.length]? = some (HHC h k p b) := by rw [g3k _ (by omega)]; exact fr1.at c0
    have d1 : g3[g.length + 1]? = some (.cells Z false) := by rw [g3k _ (by omega)]; exact fr1.at c1
    have ltk := Lk.lt
    have d2 : g3[hk.length]? = some (.cells Y false) := by rw [g3k _ (by omega)]; simp
    have n0 : (g.length != q) = true := by simp; omega
    have n1 : (hk.length != q) = true := by simp; omega
    have n0' : (q != g.length) = true := by simp; omega
    have n1' : (q != hk.length) = true := by simp; omega
    have hLo : Lo o hk g3 := ⟨by rw [g3l]; simp, fun i hi => by rw [g3k i (by omega)]; exact fr1.k i (by omega)⟩
    have hHi : Hi o q hk g3 := ⟨by rw [g3l]; simp, fun i h1 h2 h3 => by rw [g3k i h3]; exact fr1.k i h2⟩
    obtain ⟨t, g', hr, hp'⟩ := ihj (D ++ enP h.ft (upto h.bs.length) d F 0 j) g3 (by omega) (fun c hc => by
      rcases List.mem_append.1 hc with hc | hc
      · exact hF c hc
      · rw [List.mem_singleton] at hc; subst hc; omega) hf L3 (hP _ _ _ hpk hLo)
    rcases hp' with ⟨rfl, hp', hi', Lk'⟩ | ⟨rfl, hq⟩
    · simp (disch := first | assumption | omega | (simp only [az]; done)) only [ru, eq_self, if_true, if_false, BEq.rfl, binI, AO.row?, splice, fillL, mmAll, loadV, storeV, zeros, Am.rowAt, Am.part, addOff, Nat.reduceAdd, Nat.reduceMul, Nat.reduceLeDiff, Nat.reduceSub, Nat.reduceLT, Int.reduceEq, Int.reduceLT, Int.reduceLE, Int.reduceGT, Int.reduceGE, Int.reduceAdd, Int.reduceSub, Int.reduceMul, Int.reduceNeg, Int.reduceToNat, reduceCtorEq, reduceIte, lenV_sl H.k, lenV_sl H.p, lenV_sl H.b, elem_kd H.k, elem_pr H.p, elem_in H.b, view_sl H.k, view_sl H.p, view_sl H.b, scalar_sl H.k, scalar_sl H.p, scalar_sl H.b, cells_sl H.k, cells_sl H.p, cells_sl H.b, pure_sl H.k, pure_sl H.p, pure_sl H.b, Int.toNat_natCast, rmr, hlt, lo, ll, tk, iv_sc iv, iv_view iv, iv_pure iv, c0, c1, a1, Yl, tkY, iv_sc Yi, exOp_wAppM, objIsA, objNotA, BEq.rfl, n0, n1, n0', n1', hw, d0, d1, d2, at_ap m0, at_ap m1, atE, setE, lenE, Bool.not_true, exOp_call0, hr]
      refine ihk (h.bs.length - (j + 1)) _ _ _ (by omega) ⟨j + 1, by omega, rfl, hi.trans (hHi.trans hi'), Lk'.init, hi'.at (by omega) (by omega) d0, hi'.at (by omega) (by omega) d1, ?_, rfl, rfl, rfl, rfl, rfl, rfl, rfl, rfl, rfl⟩
      rw [es2, ← List.append_assoc]; exact hp'
    · simp (disch := first | assumption | omega | (simp only [az]; done)) only [ru, eq_self, if_true, if_false, BEq.rfl, binI, AO.row?, splice, fillL, mmAll, loadV, storeV, zeros, Am.rowAt, Am.part, addOff, Nat.reduceAdd, Nat.reduceMul, Nat.reduceLeDiff, Nat.reduceSub, Nat.reduceLT, Int.reduceEq, Int.reduceLT, Int.reduceLE, Int.reduceGT, Int.reduceGE, Int.reduceAdd, Int.reduceSub, Int.reduceMul, Int.reduceNeg, Int.reduceToNat, reduceCtorEq, reduceIte, lenV_sl H.k, lenV_sl H.p, lenV_sl H.b, elem_kd H.k, elem_pr H.p, elem_in H.b, view_sl H.k, view_sl H.p, view_sl H.b, scalar_sl H.k, scalar_sl H.p, scalar_sl H.b, cells_sl H.k, cells_sl H.p, cells_sl H.b, pure_sl H.k, pure_sl H.p, pure_sl H.b, Int.toNat_natCast, rmr, hlt, lo, ll, tk, iv_sc iv, iv_view iv, iv_pure iv, c0, c1, a1, Yl, tkY, iv_sc Yi, exOp_wAppM, objIsA, objNotA, BEq.rfl, n0, n1, n0', n1', hw, d0, d1, d2, at_ap m0, at_ap m1, atE, setE, lenE, Bool.not_false, exOp_call0, hr]
      exact ⟨false, rfl, .inr ⟨rfl, hq⟩⟩
theorem GO_smakeR {X : Cx} {base : Nat} {k : List KF} {ts : List AV} {h : List AO} {mk : List Nat} {r : List AOper} {d : Option Nat} {e eb s : Nat} {z : List AV} {l c : Opd} :
    GO X base (⟨d, .makeSlice true e eb z l c, none, some s, []⟩ :: r) k ts h mk = GX X base (match Opd.ev ts l, Opd.ev ts c with
    | .int _ l, .int _ c => if 0 ≤ l ∧ l ≤ c ∧ eb * c ≤ 140737488355328 ∧ 1 ≤ eb then some (.mr e (base + s) 0 l.toNat c.toNat, h.set (base + s) (.cells (zeros c.toNat z) false)) else none
    | _, _ => none) d r k ts mk := by
  rw [GO_slot]; rfl
theorem flat_rep {n : Nat} {a : AV} : (List.replicate n [a]).flatten = List.replicate n a := by
  induction n with
  | zero => rfl
  | succ n ih => rw [List.replicate_succ, List.flatten_cons, ih]; rfl
set_option maxHeartbeats 2000000 in
/-- the packings, each handed over -/
theorem r99 (H : HsOk h k p b) (G : HG h) {o lim : Nat} (hlim : lim ≤ o) {P : List (List Int) → List AO → Prop} {Q : List AO → Prop}
    (hP : ∀ D g g', P D g → Lo o g g' → P D g')
    (hstep : ∀ q D F g, o < q → Lq h.ps.length g q F → P D g → Pkg h F → ∃ t g', R E (.rnd o) [.mr 1 q 0 F.length h.ps.length, .agg (lds h F)] g lim = some (Bo t, g') ∧ ((t = true ∧ P (D ++ [F]) g' ∧ Fk (o + 1) g g') ∨ (t = false ∧ Q g')))
    {g : List AO} (ho : o < g.length) (h0 : P [] g) : ∃ r g', R E (.fn 99) [hsV h.fl k p b, .yld o] g lim = some (r, g') ∧ (P h.pk g' ∨ Q g') := by
  have np := G.np
  obtain ⟨g2, hg2⟩ : ∃ g2 : List AO, g2 = g ++ [HHC h k p b] ++ [.cells (List.replicate h.ps.length (I 0)) false] := ⟨_, rfl⟩
  have fr : Fr g g2 := by rw [hg2, List.append_assoc]; exact Fr.app g _
  have L : Lq h.ps.length g2 (g.length + 1) [] := ⟨_, by rw [hg2]; exact at2, by simp, by simp⟩
  obtain ⟨t, g', hr, hp⟩ := r112 H G (q := g.length + 1) hlim (by omega) hP (fun D F g => hstep _ D F g (by omega)) h.ps.length [] [] g2 (by simp) (by simp) (ft_nil G) L (hP _ _ _ h0 ⟨fr.l, fun j hj => fr.k j (by omega)⟩)
  rw [List.nil_append] at hp
  have l16 : lds h [] = [I 0, I 0, I 0, I 0, I 0, I 0, I 0, I 0, I 0, I 0, I 0, I 0, I 0, I 0, I 0, I 0] := by rw [lds_nil]; rfl
  rw [l16, hg2] at hr
  simp only [List.length_nil, hsV] at hr
  refine R_of _ (es _ _ _ _) e99 ?_
  simp only [f99, hsV]
  have b0 : (0 : Int) ≤ h.ps.length := by omega
  have s1 : ∀ a b c : AO, (g ++ [a] ++ [b]).set (g.length + 1) c = g ++ [a] ++ [c] := fun a b c => by rw [List.append_assoc, List.append_assoc, List.set_append_right _ _ (by omega), Nat.add_sub_cancel_left]; rfl
  have at3 : ∀ a b : AO, (g ++ [a] ++ [b])[g.length]? = some a := fun a b => by simp
  have b8 : (8 : Int) * h.ps.length ≤ 140737488355328 := by omega
  simp (disch := first | assumption | omega | (simp only [az]; done)) only [ru, eq_self, if_true, if_false, BEq.rfl, binI, AO.row?, splice, fillL, mmAll, loadV, storeV, zeros, Am.rowAt, Am.part, addOff, Nat.reduceAdd, Nat.reduceMul, Nat.reduceLeDiff, Nat.reduceSub, Nat.reduceLT, Int.reduceEq, Int.reduceLT, Int.reduceLE, Int.reduceGT, Int.reduceGE, Int.reduceAdd, Int.reduceSub, Int.reduceMul, Int.reduceNeg, Int.reduceToNat, reduceCtorEq, reduceIte, lenV_sl H.k, lenV_sl H.p, lenV_sl H.b, elem_kd H.k, elem_pr H.p, elem_in H.b, view_sl H.k, view_sl H.p, view_sl H.b, scalar_sl H.k, scalar_sl H.p, scalar_sl H.b, cells_sl H.k, cells_sl H.p, cells_sl H.b, pure_sl H.k, pure_sl H.p, pure_sl H.b, Int.toNat_natCast, rmr, GO_smakeR, GO_mcall0, unhN, unhC, exOp_call0, hr, fin0, fin0n, b0, b8, lenE, flat_rep, s1, at3]
  rcases hp with ⟨_, hp, _⟩ | ⟨_, hq⟩
  · exact .inl hp
  · exact .inr hq
end
end Go.Proofs.Ytcdedbpmjhjehaa.S

/-
The program: whether there is a packing, the most that keeps early, the best packing.
-/
namespace Go.Proofs.Ytcdedbpmjhjehaa.S
open Go Go.Am Go.Proofs.Ytcdedbpmjhjehaa.T
set_option maxRecDepth 100000
set_option linter.unusedSimpArgs false
set_option linter.unusedVariables false

theorem Lo.at {o : Nat} {g g' : List AO} (F : Lo o g g') {j : Nat} (h1 : j ≤ o) {x : AO} (hx : g[j]? = some x) : g'[j]? = some x := by rw [F.k j h1]; exact hx
section
variable {h : Hs} {k p b : AV}
def As98 : ACode := .skip
def Bd98 : ACode := .block 1 (.seq (.region 0 [⟨none, .store 1 (.t 2) (.c (.bool true)), none, none, []⟩])
     (.ret))
set_option maxHeartbeats 4000000 in
theorem s98 (H : HsOk h k p b) (G : HG h) (st : Bool) : Iso E 98 [hsV h.fl k p b] st = some (Bo (decide (h.pk ≠ []))) := by
  refine Iso_of (es _ _ _ _) e98 ?_
  simp only [f98, hsV]
  simp (disch := first | assumption | omega | (simp only [az]; done)) only [ru, eq_self, if_true, if_false, BEq.rfl, binI, AO.row?, splice, fillL, mmAll, loadV, storeV, zeros, Am.rowAt, Am.part, addOff, Nat.reduceAdd, Nat.reduceMul, Nat.reduceLeDiff, Nat.reduceSub, Nat.reduceLT, Int.reduceEq, Int.reduceLT, Int.reduceLE, Int.reduceGT, Int.reduceGE, Int.reduceAdd, Int.reduceSub, Int.reduceMul, Int.reduceNeg, Int.reduceToNat, reduceCtorEq, reduceIte, lenV_sl H.k, lenV_sl H.p, lenV_sl H.b, elem_kd H.k, elem_pr H.p, elem_in H.b, view_sl H.k, view_sl H.p, view_sl H.b, scalar_sl H.k, scalar_sl H.p, scalar_sl H.b, cells_sl H.k, cells_sl H.p, cells_sl H.b, pure_sl H.k, pure_sl H.p, pure_sl H.b, Int.toNat_natCast]
  obtain ⟨TS, hTS⟩ : ∃ TS : List AV, TS = [.agg [k, I h.fl, p, b], .ptr 0 0, .ptr 1 0, .agg [k, I h.fl, p, b], .fn 99 [.agg [k, I h.fl, p, b]] [], .undef, .undef] := ⟨_, rfl⟩
  obtain ⟨H1, hH1⟩ : ∃ H1 : List AO, H1 = [.cells [k, I h.fl, p, b] false, .cells [Bo false] false, .dfr, .loop .ready none 98 TS [5, 6] As98 Bd98 2] := ⟨_, rfl⟩
  have key := r99 H G (o := 3) (lim := 0) (by omega)
    (P := fun D g => D = [] ∧ g[1]? = some (.cells [Bo false] false) ∧ g[2]? = some .dfr ∧ g[3]? = some (.loop .ready none 98 TS [5, 6] As98 Bd98 2))
    (Q := fun g => h.pk ≠ [] ∧ g[1]? = some (.cells [Bo true] false) ∧ g[2]? = some .dfr ∧ g[3]? = some (.loop .done (some .ret) 98 TS [5, 6] As98 Bd98 2))
    (by rintro D h h' ⟨a, b, c, d⟩ fr; exact ⟨a, fr.at (by omega) b, fr.at (by omega) c, fr.at (by omega) d⟩) ?_ (g := H1) (by rw [hH1]; simp) (by rw [hH1]; exact ⟨rfl, rfl, rfl, rfl⟩)
  · refine G_range_of rfl rfl ?_
    rw [← hTS]
    obtain ⟨r, h3, hr, ⟨g0, g1, g2, g3⟩ | ⟨g0, g1, g2, g3⟩⟩ := key
    · rw [hH1] at hr
      refine ⟨r, h3, .ready, none, 98, TS, [5, 6], As98, Bd98, 2, hr, g3, .inl rfl, ?_⟩
      simp only [Option.getD_none, GE_nrm]
      obtain ⟨h4, hh4⟩ : ∃ h4, h4 = h3.set (([.cells [k, I h.fl, p, b] false, .cells [Bo false] false] : List AO).length + 1) (AO.loop .exhausted none 98 TS [5, 6] As98 Bd98 2) := ⟨_, rfl⟩
      rw [← hh4]
      have k1 : h4[1]? = some (.cells [Bo false] false) := by rw [hh4, List.getElem?_set_ne (by simp)]; exact g1
      have k2 : h4[2]? = some .dfr := by rw [hh4, List.getElem?_set_ne (by simp)]; exact g2
      have l4 : 2 < h4.length := (List.getElem?_eq_some_iff.1 k2).1
      have e : decide (h.pk ≠ []) = false := by rw [g0]; rfl
      rw [hTS, e]
      have w1 : (h4.set 1 (.cells [Bo false] false))[1]? = some (.cells [Bo false] false) := List.getElem?_set_self (by omega)
      have w2 : (h4.set 1 (.cells [Bo false] false))[2]? = some .dfr := by rw [List.getElem?_set_ne (by omega)]; exact k2
      simp (disch := first | assumption | omega | (simp only [az]; done)) only [ru, eq_self, if_true, if_false, BEq.rfl, binI, AO.row?, splice, fillL, mmAll, loadV, storeV, zeros, Am.rowAt, Am.part, addOff, Nat.reduceAdd, Nat.reduceMul, Nat.reduceLeDiff, Nat.reduceSub, Nat.reduceLT, Int.reduceEq, Int.reduceLT, Int.reduceLE, Int.reduceGT, Int.reduceGE, Int.reduceAdd, Int.reduceSub, Int.reduceMul, Int.reduceNeg, Int.reduceToNat, reduceCtorEq, reduceIte, k1]
      refine finM (h' := (h4.set 1 (.cells [Bo false] false)).set 2 .tomb) (vs := [Bo false]) (.inr rfl) (by simp) ?_ ?_ ?_
      · simp only [takeMarks, List.length_cons, List.length_nil, w2]
      · have w3 : ((h4.set 1 (.cells [Bo false] false)).set 2 .tomb)[1]? = some (.cells [Bo false] false) := by rw [List.getElem?_set_ne (by omega)]; exact w1
        simp (disch := first | assumption | omega | (simp only [az]; done)) only [ru, eq_self, if_true, if_false, BEq.rfl, binI, AO.row?, splice, fillL, mmAll, loadV, storeV, zeros, Am.rowAt, Am.part, addOff, Nat.reduceAdd, Nat.reduceMul, Nat.reduceLeDiff, Nat.reduceSub, Nat.reduceLT, Int.reduceEq, Int.reduceLT, Int.reduceLE, Int.reduceGT, Int.reduceGE, Int.reduceAdd, Int.reduceSub, Int.reduceMul, Int.reduceNeg, Int.reduceToNat, reduceCtorEq, reduceIte, w3, List.mapM_cons, List.mapM_nil, getRes, Option.bind_eq_bind, Option.pure_def, Option.bind_some]
      · exact view_bool
    · rw [hH1] at hr
      refine ⟨r, h3, .done, some .ret, 98, TS, [5, 6], As98, Bd98, 2, hr, g3, .inr rfl, ?_⟩
      simp only [Option.getD_some, GE_ret]
      obtain ⟨h4, hh4⟩ : ∃ h4, h4 = h3.set (([.cells [k, I h.fl, p, b] false, .cells [Bo false] false] : List AO).length + 1) (AO.loop .exhausted (some .ret) 98 TS [5, 6] As98 Bd98 2) := ⟨_, rfl⟩
      rw [← hh4]
      have k1 : h4[1]? = some (.cells [Bo true] false) := by rw [hh4, List.getElem?_set_ne (by simp)]; exact g1
      have k2 : h4[2]? = some .dfr := by rw [hh4, List.getElem?_set_ne (by simp)]; exact g2
      have e : decide (h.pk ≠ []) = true := decide_eq_true g0
      rw [hTS, e]
      simp (disch := first | assumption | omega | (simp only [az]; done)) only [ru, eq_self, if_true, if_false, BEq.rfl, binI, AO.row?, splice, fillL, mmAll, loadV, storeV, zeros, Am.rowAt, Am.part, addOff, Nat.reduceAdd, Nat.reduceMul, Nat.reduceLeDiff, Nat.reduceSub, Nat.reduceLT, Int.reduceEq, Int.reduceLT, Int.reduceLE, Int.reduceGT, Int.reduceGE, Int.reduceAdd, Int.reduceSub, Int.reduceMul, Int.reduceNeg, Int.reduceToNat, reduceCtorEq, reduceIte]
      refine finM (h' := h4.set 2 .tomb) (vs := [Bo true]) (.inr rfl) (by simp) ?_ ?_ ?_
      · simp only [takeMarks, List.length_cons, List.length_nil, k2]
      · have w3 : (h4.set 2 .tomb)[1]? = some (.cells [Bo true] false) := by rw [List.getElem?_set_ne (by omega)]; exact k1
        simp (disch := first | assumption | omega | (simp only [az]; done)) only [ru, eq_self, if_true, if_false, BEq.rfl, binI, AO.row?, splice, fillL, mmAll, loadV, storeV, zeros, Am.rowAt, Am.part, addOff, Nat.reduceAdd, Nat.reduceMul, Nat.reduceLeDiff, Nat.reduceSub, Nat.reduceLT, Int.reduceEq, Int.reduceLT, Int.reduceLE, Int.reduceGT, Int.reduceGE, Int.reduceAdd, Int.reduceSub, Int.reduceMul, Int.reduceNeg, Int.reduceToNat, reduceCtorEq, reduceIte, w3, List.mapM_cons, List.mapM_nil, getRes, Option.bind_eq_bind, Option.pure_def, Option.bind_some]
      · exact view_bool
  · rintro q D F g hq L ⟨g0, g1, g2, g3⟩ hO
    have := R_rnd_of (E := E) (lim := 0) (args := [.mr 1 q 0 F.length h.ps.length, .agg (lds h F)]) (P := fun r h' => r = Bo false ∧ (h.pk ≠ [] ∧ h'[1]? = some (.cells [Bo true] false) ∧ h'[2]? = some .dfr ∧ h'[3]? = some (.loop .done (some .ret) 98 TS [5, 6] As98 Bd98 2))) g3 rfl (Nat.zero_le _) ?_
    · obtain ⟨r, h', hr, rfl, hp⟩ := this
      exact ⟨false, h', hr, .inr ⟨rfl, hp⟩⟩
    rw [hTS]
    simp only [setAll, List.set_cons_succ, List.set_cons_zero]
    unfold As98
    simp (disch := first | assumption | omega | (simp only [az]; done)) only [ru, eq_self, if_true, if_false, BEq.rfl, binI, AO.row?, splice, fillL, mmAll, loadV, storeV, zeros, Am.rowAt, Am.part, addOff, Nat.reduceAdd, Nat.reduceMul, Nat.reduceLeDiff, Nat.reduceSub, Nat.reduceLT, Int.reduceEq, Int.reduceLT, Int.reduceLE, Int.reduceGT, Int.reduceGE, Int.reduceAdd, Int.reduceSub, Int.reduceMul, Int.reduceNeg, Int.reduceToNat, reduceCtorEq, reduceIte]
    rw [← hTS]
    refine ⟨none, 98, TS, [5, 6], As98, Bd98, 2, g3, ?_⟩
    obtain ⟨h6, hh6⟩ : ∃ h6, h6 = g.set 3 (AO.loop .busy none 98 TS [5, 6] As98 Bd98 2) := ⟨_, rfl⟩
    rw [← hh6]
    have ho : 3 < g.length := (List.getElem?_eq_some_iff.1 g3).1
    have n1 : h6[1]? = some (.cells [Bo false] false) := by rw [hh6, List.getElem?_set_ne (by omega)]; exact g1
    have n2 : h6[2]? = some .dfr := by rw [hh6, List.getElem?_set_ne (by omega)]; exact g2
    have n3 : h6[3]? = some (AO.loop .busy none 98 TS [5, 6] As98 Bd98 2) := by rw [hh6, List.getElem?_set_self (by omega)]
    have l6 : h6.length = g.length := by rw [hh6]; simp
    unfold Bd98
    simp (disch := first | assumption | omega | (simp only [az]; done)) only [ru, eq_self, if_true, if_false, BEq.rfl, binI, AO.row?, splice, fillL, mmAll, loadV, storeV, zeros, Am.rowAt, Am.part, addOff, Nat.reduceAdd, Nat.reduceMul, Nat.reduceLeDiff, Nat.reduceSub, Nat.reduceLT, Int.reduceEq, Int.reduceLT, Int.reduceLE, Int.reduceGT, Int.reduceGE, Int.reduceAdd, Int.reduceSub, Int.reduceMul, Int.reduceNeg, Int.reduceToNat, reduceCtorEq, reduceIte, n1]
    refine ⟨.busy, none, 98, TS, [5, 6], As98, Bd98, 2, by rw [List.getElem?_set_ne (by omega)]; exact n3, ?_⟩
    refine ⟨rfl, (by intro e; have := G.mem_pk.2 hO; rw [e] at this; cases this), ?_, ?_, ?_⟩
    · rw [List.getElem?_set_ne (by omega), List.getElem?_set_self (by omega)]
    · rw [List.getElem?_set_ne (by omega), List.getElem?_set_ne (by omega)]; exact n2
    · rw [List.getElem?_set_self (by simp; omega)]; rfl

/-! the most that keeps early -/
def As84 : ACode := .region 0 [oQ 8 (.alloc [I 0, I 0, I 0, I 0, I 0, I 0, I 0, I 0, I 0, I 0, I 0, I 0, I 0, I 0, I 0, I 0]), ⟨none, .store 16 (.t 8) (.t 15), none, none, []⟩]
def Bd84 : ACode := .block 1 (.region 0 [oQ 16 (.load false 1 (.t 6)), oQ 17 (.load true 16 (.t 8)), oQ 18 (.load false 1 (.t 3)), oQ 19 (.call 1 100 [(.t 17), (.t 18)]), oP 20 (.minmax true (.t 16) [(.t 19)]), ⟨none, .store 1 (.t 6) (.t 20), none, none, []⟩])
theorem sum4 {f : Nat → Int} {n : Nat} (hn : n ≤ 4) (h : ∀ c, n ≤ c → f c = 0) : sums 4 f = sums n f := sums_zero hn fun c h1 _ => h c h1
theorem prs_out {x : List Int} (P : Pkg h x) {c : Nat} (hc : h.bs.length ≤ c) : prs h.ps x c = [] := prs_none fun hm => by
  have := P.c _ hm; omega
theorem ea4 (G : HG h) {x : List Int} (P : Pkg h x) {D : Int} (hD : 0 ≤ D) : sums 4 (fun c => if dyP h.ks (prs h.ps x c) ≤ D then lbP (prs h.ps x c) else 0) = h.ea D x := sum4 G.nb fun c hc => by
  rw [prs_out P hc]; simp [dyP, lbP, mxs, sm]
theorem sa4 (G : HG h) {x : List Int} (P : Pkg h x) : sums 4 (fun c => slP h.ks h.fl (prs h.ps x c)) = h.sa x := sum4 G.nb fun c hc => by
  rw [prs_out P hc]; simp [slP]
theorem us4 (G : HG h) {x : List Int} (P : Pkg h x) : sums 4 (fun c => if (prs h.ps x c).length = 0 then 0 else 1) = h.us x := sum4 G.nb fun c hc => by
  rw [prs_out P hc]; simp
set_option maxHeartbeats 4000000 in
theorem s84 (H : HsOk h k p b) (G : HG h) {D : Int} (hD : 0 ≤ D) (st : Bool) : Iso E 84 [hsV h.fl k p b, I D] st = some (.tup [I (mst (h.ea D) h.pk), I (if h.pk = [] then 3 else 0)]) := by
  have c98 := fun st => s98 H G st
  simp only [hsV] at c98
  refine Iso_of (es _ _ _ _) e84 ?_
  simp only [f84, hsV]
  by_cases hpk : h.pk = []
  · have e : decide (h.pk ≠ []) = false := decide_eq_false fun hn => hn hpk
    have em : mst (h.ea D) h.pk = 0 := by rw [hpk]; rfl
    rw [e] at c98
    rw [if_pos hpk, em]
    simp (disch := first | assumption | omega | (simp only [az]; done)) only [ru, eq_self, if_true, if_false, BEq.rfl, binI, AO.row?, splice, fillL, mmAll, loadV, storeV, zeros, Am.rowAt, Am.part, addOff, Nat.reduceAdd, Nat.reduceMul, Nat.reduceLeDiff, Nat.reduceSub, Nat.reduceLT, Int.reduceEq, Int.reduceLT, Int.reduceLE, Int.reduceGT, Int.reduceGE, Int.reduceAdd, Int.reduceSub, Int.reduceMul, Int.reduceNeg, Int.reduceToNat, reduceCtorEq, reduceIte, lenV_sl H.k, lenV_sl H.p, lenV_sl H.b, elem_kd H.k, elem_pr H.p, elem_in H.b, view_sl H.k, view_sl H.p, view_sl H.b, scalar_sl H.k, scalar_sl H.p, scalar_sl H.b, cells_sl H.k, cells_sl H.p, cells_sl H.b, pure_sl H.k, pure_sl H.p, pure_sl H.b, Int.toNat_natCast, c98, Bool.not_false]
    done
  have e : decide (h.pk ≠ []) = true := decide_eq_true hpk
  rw [e] at c98
  rw [if_neg hpk]
  simp (disch := first | assumption | omega | (simp only [az]; done)) only [ru, eq_self, if_true, if_false, BEq.rfl, binI, AO.row?, splice, fillL, mmAll, loadV, storeV, zeros, Am.rowAt, Am.part, addOff, Nat.reduceAdd, Nat.reduceMul, Nat.reduceLeDiff, Nat.reduceSub, Nat.reduceLT, Int.reduceEq, Int.reduceLT, Int.reduceLE, Int.reduceGT, Int.reduceGE, Int.reduceAdd, Int.reduceSub, Int.reduceMul, Int.reduceNeg, Int.reduceToNat, reduceCtorEq, reduceIte, lenV_sl H.k, lenV_sl H.p, lenV_sl H.b, elem_kd H.k, elem_pr H.p, elem_in H.b, view_sl H.k, view_sl H.p, view_sl H.b, scalar_sl H.k, scalar_sl H.p, scalar_sl H.b, cells_sl H.k, cells_sl H.p, cells_sl H.b, pure_sl H.k, pure_sl H.p, pure_sl H.b, Int.toNat_natCast, c98, Bool.not_true]
  obtain ⟨TS, hTS⟩ : ∃ TS : List AV, TS = [.agg [k, I h.fl, p, b], I D, .ptr 0 0, .ptr 1 0, I 0, I 0, .ptr 2 0, .undef, .undef, .agg [k, I h.fl, p, b], Bo true, Bo false, .agg [k, I h.fl, p, b], .fn 99 [.agg [k, I h.fl, p, b]] [], .undef, .undef, .undef, .undef, .undef, .undef, .undef, .undef] := ⟨_, rfl⟩
  obtain ⟨H1, hH1⟩ : ∃ H1 : List AO, H1 = [.cells [k, I h.fl, p, b] false, .cells [I D] false, .cells [I 0] false, .dfr, .loop .ready none 84 TS [14, 15] As84 Bd84 3] := ⟨_, rfl⟩
  have key := r99 H G (o := 4) (lim := 0) (by omega) (Q := fun _ => False)
    (P := fun D' g => g[1]? = some (.cells [I D] false) ∧ g[2]? = some (.cells [I (mst (h.ea D) D')] false) ∧ g[3]? = some .dfr ∧ g[4]? = some (.loop .ready none 84 TS [14, 15] As84 Bd84 3))
    (by rintro D h h' ⟨a, b, c, d⟩ fr; exact ⟨fr.at (by omega) a, fr.at (by omega) b, fr.at (by omega) c, fr.at (by omega) d⟩) ?_ (g := H1) (by rw [hH1]; simp) (by rw [hH1]; exact ⟨rfl, rfl, rfl, rfl⟩)
  · refine G_range_of rfl rfl ?_
    rw [← hTS]
    obtain ⟨r, h3, hr, ⟨g0, g1, g2, g3⟩ | hf⟩ := key
    case inr => exact hf.elim
    rw [hH1] at hr
    refine ⟨r, h3, .ready, none, 84, TS, [14, 15], As84, Bd84, 3, hr, g3, .inl rfl, ?_⟩
    simp only [Option.getD_none, GE_nrm]
    obtain ⟨h4, hh4⟩ : ∃ h4, h4 = h3.set (([.cells [k, I h.fl, p, b] false, .cells [I D] false, .cells [I 0] false] : List AO).length + 1) (AO.loop .exhausted none 84 TS [14, 15] As84 Bd84 3) := ⟨_, rfl⟩
    rw [← hh4]
    have k1 : h4[2]? = some (.cells [I (mst (h.ea D) h.pk)] false) := by rw [hh4, List.getElem?_set_ne (by simp)]; exact g1
    have k2 : h4[3]? = some .dfr := by rw [hh4, List.getElem?_set_ne (by simp)]; exact g2
    rw [hTS]
    simp (disch := first | assumption | omega | (simp only [az]; done)) only [ru, eq_self, if_true, if_false, BEq.rfl, binI, AO.row?, splice, fillL, mmAll, loadV, storeV, zeros, Am.rowAt, Am.part, addOff, Nat.reduceAdd, Nat.reduceMul, Nat.reduceLeDiff, Nat.reduceSub, Nat.reduceLT, Int.reduceEq, Int.reduceLT, Int.reduceLE, Int.reduceGT, Int.reduceGE, Int.reduceAdd, Int.reduceSub, Int.reduceMul, Int.reduceNeg, Int.reduceToNat, reduceCtorEq, reduceIte, k1]
    refine finM (h' := h4.set 3 .tomb) (vs := [I (mst (h.ea D) h.pk), I 0]) (.inr rfl) (by simp) ?_ ?_ ?_
    · simp only [takeMarks, List.length_cons, List.length_nil, k2]
    · simp (disch := first | assumption | omega | (simp only [az]; done)) only [ru, eq_self, if_true, if_false, BEq.rfl, binI, AO.row?, splice, fillL, mmAll, loadV, storeV, zeros, Am.rowAt, Am.part, addOff, Nat.reduceAdd, Nat.reduceMul, Nat.reduceLeDiff, Nat.reduceSub, Nat.reduceLT, Int.reduceEq, Int.reduceLT, Int.reduceLE, Int.reduceGT, Int.reduceGE, Int.reduceAdd, Int.reduceSub, Int.reduceMul, Int.reduceNeg, Int.reduceToNat, reduceCtorEq, reduceIte, List.mapM_cons, List.mapM_nil, getRes, Option.bind_eq_bind, Option.pure_def, Option.bind_some]
    · simp only [view_tup, List.mapM_cons, List.mapM_nil, view_int]; rfl
  · rintro q D' F g hq L ⟨g0, g1, g2, g3⟩ hO
    have := R_rnd_of (E := E) (lim := 0) (args := [.mr 1 q 0 F.length h.ps.length, .agg (lds h F)]) (P := fun r h' => r = Bo true ∧ (h'[1]? = some (.cells [I D] false) ∧ h'[2]? = some (.cells [I (mst (h.ea D) (D' ++ [F]))] false) ∧ h'[3]? = some .dfr ∧ h'[4]? = some (.loop .ready none 84 TS [14, 15] As84 Bd84 3)) ∧ Fk 5 g h') g3 rfl (Nat.zero_le _) ?_
    · obtain ⟨r, h', hr, rfl, hp, fk⟩ := this
      exact ⟨true, h', hr, .inl ⟨rfl, hp, fk⟩⟩
    have c100 := fun st => Iso_ro (q100 G F D []) st
    rw [ea4 G hO hD] at c100
    have ll := lds_len (h := h) (x := F)
    have iv := lds_iv (h := h) (x := F)
    obtain ⟨Z, hZ⟩ : ∃ Z, Z = lds h F := ⟨_, rfl⟩
    rw [← hZ] at ll iv c100 ⊢
    have tk : Z.take 16 = Z := List.take_of_length_le (by omega)
    rw [hTS]
    simp only [setAll, List.set_cons_succ, List.set_cons_zero]
    rw [← hTS]
    unfold As84
    simp (disch := first | assumption | omega | (simp only [az]; done)) only [ru, eq_self, if_true, if_false, BEq.rfl, binI, AO.row?, splice, fillL, mmAll, loadV, storeV, zeros, Am.rowAt, Am.part, addOff, Nat.reduceAdd, Nat.reduceMul, Nat.reduceLeDiff, Nat.reduceSub, Nat.reduceLT, Int.reduceEq, Int.reduceLT, Int.reduceLE, Int.reduceGT, Int.reduceGE, Int.reduceAdd, Int.reduceSub, Int.reduceMul, Int.reduceNeg, Int.reduceToNat, reduceCtorEq, reduceIte, rmr, ll, tk, iv_sc iv, atE, setE]
    have ho : 4 < g.length := (List.getElem?_eq_some_iff.1 g3).1
    refine ⟨none, 84, TS, [14, 15], As84, Bd84, 3, by rw [at_ap ho]; exact g3, ?_⟩
    obtain ⟨h6, hh6⟩ : ∃ h6, h6 = (g ++ [AO.cells Z false]).set 4 (AO.loop .busy none 84 TS [14, 15] As84 Bd84 3) := ⟨_, rfl⟩
    rw [← hh6]
    have n0 : h6[1]? = some (.cells [I D] false) := by rw [hh6, List.getElem?_set_ne (by omega), at_ap (by omega)]; exact g0
    have n1 : h6[2]? = some (.cells [I (mst (h.ea D) D')] false) := by rw [hh6, List.getElem?_set_ne (by omega), at_ap (by omega)]; exact g1
    have n2 : h6[3]? = some .dfr := by rw [hh6, List.getElem?_set_ne (by omega), at_ap (by omega)]; exact g2
    have n3 : h6[4]? = some (AO.loop .busy none 84 TS [14, 15] As84 Bd84 3) := by rw [hh6, List.getElem?_set_self (by simp; omega)]
    have n4 : h6[g.length]? = some (.cells Z false) := by rw [hh6, List.getElem?_set_ne (by omega)]; exact atE
    have l6 : h6.length = g.length + 1 := by rw [hh6]; simp
    have em : mmx true (mst (h.ea D) D') (h.ea D F) = mst (h.ea D) (D' ++ [F]) := by rw [mst_snoc]; rfl
    unfold Bd84
    simp (disch := first | assumption | omega | (simp only [az]; done)) only [ru, eq_self, if_true, if_false, BEq.rfl, binI, AO.row?, splice, fillL, mmAll, loadV, storeV, zeros, Am.rowAt, Am.part, addOff, Nat.reduceAdd, Nat.reduceMul, Nat.reduceLeDiff, Nat.reduceSub, Nat.reduceLT, Int.reduceEq, Int.reduceLT, Int.reduceLE, Int.reduceGT, Int.reduceGE, Int.reduceAdd, Int.reduceSub, Int.reduceMul, Int.reduceNeg, Int.reduceToNat, reduceCtorEq, reduceIte, rmr, ll, tk, iv_sc iv, iv_view iv, iv_pure iv, n0, n1, n4, c100, em]
    refine ⟨.busy, none, 84, TS, [14, 15], As84, Bd84, 3, by rw [List.getElem?_set_ne (by omega)]; exact n3, ?_⟩
    refine ⟨⟨?_, ?_, ?_, ?_⟩, ⟨by simp [l6], fun j hj hl => ?_⟩⟩
    · rw [List.getElem?_set_ne (by omega), List.getElem?_set_ne (by omega)]; exact n0
    · rw [List.getElem?_set_ne (by omega), List.getElem?_set_self (by rw [l6]; omega)]
    · rw [List.getElem?_set_ne (by omega), List.getElem?_set_ne (by omega)]; exact n2
    · rw [List.getElem?_set_self (by simp; omega)]; rfl
    · rw [List.getElem?_set_ne (by omega), List.getElem?_set_ne (by omega), hh6, List.getElem?_set_ne (by omega), at_ap hl]

/-! the best packing -/
def bC (n : Nat) (f : List Int → Int) (D : List (List Int)) : List AV := match bsf f D with | none => List.replicate n (I 0) | some x => x.flatMap intL
def bL (f : List Int → Int) (D : List (List Int)) : Int := match bsf f D with | none => 9223372036854775807 | some x => f x
def As76 : ACode := .seq (.region 0 [oP 9 (.move (.t 21))]) (.region 0 [oQ 10 (.alloc [I 0, I 0, I 0, I 0, I 0, I 0, I 0, I 0, I 0, I 0, I 0, I 0, I 0, I 0, I 0, I 0]), ⟨none, .store 16 (.t 10) (.t 22), none, none, []⟩])
def Bd76 : ACode := .block 1 (.seq (.region 0 [oQ 23 (.load false 1 (.t 3)), oQ 24 (.load true 4 (.t 2)), oQ 25 (.load true 16 (.t 10)), oQ 26 (.callv true (.t 23) [.t 24, .t 25]), oP 11 (.move (.t 26))])
  (.seq (.region 0 [oP 27 (.move (.t 11)), oQ 28 (.load false 1 (.t 8)), oP 29 (.bin .lss (.t 27) (.t 28))])
  (.cond (.t 29) (.seq (.region 0 [oQ 30 (.load false 1 (.t 7)), oP 31 (.move (.t 9)), oQ 32 (.w (.cpy 1 (.t 30) (.t 31)))])
    (.region 0 [oP 33 (.move (.t 11)), ⟨none, .store 1 (.t 8) (.t 33), none, none, []⟩])) .skip)))
theorem cpy_all {lim n : Nat} {g : List AO} {q o : Nat} {F : List Int} {C : List AV} (L : Lq n g q F) (hF : F.length = n) (ho : g[o]? = some (.cells C false)) (hC : C.length = n) (hl : lim ≤ o) :
    ∃ v, wCpy lim g 1 (.ms 1 o 0 n) (.mr 1 q 0 F.length n) = some (v, g.set o (.cells (F.flatMap intL) false)) := by
  obtain ⟨c, h1, h2, h3⟩ := L
  have e : c = F.flatMap intL := by rw [← h3, List.take_of_length_le (by omega)]
  have fl : (F.flatMap intL).length = n := by rw [flat1]; exact hF
  have row : Am.rowOf g (.mr 1 q 0 F.length n) = some (F.flatMap intL) := by
    have tk : (F.flatMap intL).take (F.length * 1) = F.flatMap intL := List.take_of_length_le (by omega)
    simp only [Am.rowOf, Am.rowAt, h1, Option.bind_some, AO.row?, e, List.drop_zero, tk]
    rw [if_pos (by omega)]
  by_cases h0 : n = 0
  · have hF0 : F = [] := List.eq_nil_of_length_eq_zero (by omega)
    have hC0 : C = [] := List.eq_nil_of_length_eq_zero (by omega)
    refine ⟨.int .i64 0, (wCpy_no (n := F.length) (k := n) rfl rfl row (by omega) (by omega)).trans ?_⟩
    subst hF0 hC0
    rw [show (AO.cells (([] : List Int).flatMap intL) false) = AO.cells [] false from rfl, set_same ho]
  · refine ⟨.int .i64 F.length, (wCpy_ok (n := F.length) (k := n) (o := o) (off := 0) rfl rfl (by omega) (by omega) rfl row (by omega) ho (by omega) hl (flat_sc F)).trans ?_⟩
    have e3 : splice C 0 (F.flatMap intL) = F.flatMap intL := by
      simp only [splice, List.take_zero, List.nil_append, Nat.zero_add]
      rw [List.drop_of_length_le (by omega), List.append_nil]
    rw [e3]
set_option maxHeartbeats 8000000 in
theorem s76 (H : HsOk h k p b) (G : HG h) {K : Nat} {f : List Int → Int} (hf : ∀ x, Pkg h x → 0 ≤ f x ∧ f x ≤ 100000) (hK : ∀ x, Pkg h x → ∀ g, Ro E K [hsV h.fl k p b, .agg (lds h x)] g = some (I (f x))) (st : Bool) :
    Iso E 76 [hsV h.fl k p b, .fn K [] []] st = some (.tup [if h.pk = [] then .nils else slV 1 intL ((bsf f h.pk).getD []), I (if h.pk = [] then 0 else lsf f h.pk), I (if h.pk = [] then 3 else 0)]) := by
  have np := G.np
  have c98 := fun st => s98 H G st
  simp only [hsV] at c98 hK
  refine Iso_of (es _ _ _ _) e76 ?_
  simp only [f76, hsV]
  by_cases hpk : h.pk = []
  · have e : decide (h.pk ≠ []) = false := decide_eq_false fun hn => hn hpk
    rw [e] at c98
    rw [if_pos hpk, if_pos hpk, if_pos hpk]
    simp (disch := first | assumption | omega | (simp only [az]; done)) only [ru, eq_self, if_true, if_false, BEq.rfl, binI, AO.row?, splice, fillL, mmAll, loadV, storeV, zeros, Am.rowAt, Am.part, addOff, Nat.reduceAdd, Nat.reduceMul, Nat.reduceLeDiff, Nat.reduceSub, Nat.reduceLT, Int.reduceEq, Int.reduceLT, Int.reduceLE, Int.reduceGT, Int.reduceGE, Int.reduceAdd, Int.reduceSub, Int.reduceMul, Int.reduceNeg, Int.reduceToNat, reduceCtorEq, reduceIte, lenV_sl H.k, lenV_sl H.p, lenV_sl H.b, elem_kd H.k, elem_pr H.p, elem_in H.b, view_sl H.k, view_sl H.p, view_sl H.b, scalar_sl H.k, scalar_sl H.p, scalar_sl H.b, cells_sl H.k, cells_sl H.p, cells_sl H.b, pure_sl H.k, pure_sl H.p, pure_sl H.b, Int.toNat_natCast, c98, Bool.not_false, fin3]
    done
  have e : decide (h.pk ≠ []) = true := decide_eq_true hpk
  rw [e] at c98
  rw [if_neg hpk, if_neg hpk, if_neg hpk]
  have b0 : (0 : Int) ≤ h.ps.length := by omega
  have b8 : (8 : Int) * h.ps.length ≤ 140737488355328 := by omega
  simp (disch := first | assumption | omega | (simp only [az]; done)) only [ru, eq_self, if_true, if_false, BEq.rfl, binI, AO.row?, splice, fillL, mmAll, loadV, storeV, zeros, Am.rowAt, Am.part, addOff, Nat.reduceAdd, Nat.reduceMul, Nat.reduceLeDiff, Nat.reduceSub, Nat.reduceLT, Int.reduceEq, Int.reduceLT, Int.reduceLE, Int.reduceGT, Int.reduceGE, Int.reduceAdd, Int.reduceSub, Int.reduceMul, Int.reduceNeg, Int.reduceToNat, reduceCtorEq, reduceIte, lenV_sl H.k, lenV_sl H.p, lenV_sl H.b, elem_kd H.k, elem_pr H.p, elem_in H.b, view_sl H.k, view_sl H.p, view_sl H.b, scalar_sl H.k, scalar_sl H.p, scalar_sl H.b, cells_sl H.k, cells_sl H.p, cells_sl H.b, pure_sl H.k, pure_sl H.p, pure_sl H.b, Int.toNat_natCast, c98, exOp_makeF, b0, b8, flat_rep, Int.le_refl, Bool.not_true]
  obtain ⟨TS, hTS⟩ : ∃ TS : List AV, TS = [.agg [k, I h.fl, p, b], .fn K [] [], .ptr 0 0, .ptr 1 0, .nils, I 0, I 0, .ptr 3 0, .ptr 4 0, .undef, .undef, .undef, .agg [k, I h.fl, p, b], Bo true, Bo false, .ptr 0 2, p, I h.ps.length, .ms 1 2 0 h.ps.length, .agg [k, I h.fl, p, b], .fn 99 [.agg [k, I h.fl, p, b]] [], .undef, .undef, .undef, .undef, .undef, .undef, .undef, .undef, .undef, .undef, .undef, .undef, .undef, .undef, .undef] := ⟨_, rfl⟩
  obtain ⟨H1, hH1⟩ : ∃ H1 : List AO, H1 = [.cells [k, I h.fl, p, b] false, .cells [.fn K [] []] false, .cells (List.replicate h.ps.length (I 0)) false, .cells [.ms 1 2 0 h.ps.length] false, .cells [I 9223372036854775807] false, .dfr, .loop .ready none 76 TS [21, 22] As76 Bd76 5] := ⟨_, rfl⟩
  have key := r99 H G (o := 6) (lim := 0) (by omega) (Q := fun _ => False)
    (P := fun D g => (∀ x ∈ D, Pkg h x) ∧ g[0]? = some (.cells [k, I h.fl, p, b] false) ∧ g[1]? = some (.cells [.fn K [] []] false) ∧ g[2]? = some (.cells (bC h.ps.length f D) false) ∧ g[3]? = some (.cells [.ms 1 2 0 h.ps.length] false) ∧ g[4]? = some (.cells [I (bL f D)] false) ∧ g[5]? = some .dfr ∧ g[6]? = some (.loop .ready none 76 TS [21, 22] As76 Bd76 5))
    (by rintro D h h' ⟨z, a, b, c, d, e, f, g⟩ fr; exact ⟨z, fr.at (by omega) a, fr.at (by omega) b, fr.at (by omega) c, fr.at (by omega) d, fr.at (by omega) e, fr.at (by omega) f, fr.at (by omega) g⟩) ?_ (g := H1) (by rw [hH1]; simp) (by rw [hH1]; exact ⟨by simp, rfl, rfl, rfl, rfl, rfl, rfl, rfl⟩)
  · refine G_range_of rfl rfl ?_
    rw [← hTS]
    obtain ⟨r, h3, hr, ⟨gp, g0, g1, g2, g3, g4, g5, g6⟩ | hf⟩ := key
    case inr => exact hf.elim
    rw [hH1] at hr
    refine ⟨r, h3, .ready, none, 76, TS, [21, 22], As76, Bd76, 5, hr, g6, .inl rfl, ?_⟩
    simp only [Option.getD_none, GE_nrm]
    obtain ⟨h4, hh4⟩ : ∃ h4, h4 = h3.set (([.cells [k, I h.fl, p, b] false, .cells [.fn K [] []] false, .cells (List.replicate h.ps.length (I 0)) false, .cells [.ms 1 2 0 h.ps.length] false, .cells [I 9223372036854775807] false] : List AO).length + 1) (AO.loop .exhausted none 76 TS [21, 22] As76 Bd76 5) := ⟨_, rfl⟩
    rw [← hh4]
    obtain ⟨x, hx, hxm, _⟩ := bsf_some (f := f) hpk
    have xl := (gp x hxm).l
    have e1 : bC h.ps.length f h.pk = x.flatMap intL := by simp only [bC, hx]
    have e2 : bL f h.pk = f x := by simp only [bL, hx]
    have e3 : lsf f h.pk = f x := by simp only [lsf, hx]
    rw [e1] at g2
    rw [e2] at g4
    rw [hx, e3]
    have k2 : h4[2]? = some (.cells (x.flatMap intL) false) := by rw [hh4, List.getElem?_set_ne (by simp)]; exact g2
    have k3 : h4[3]? = some (.cells [.ms 1 2 0 h.ps.length] false) := by rw [hh4, List.getElem?_set_ne (by simp)]; exact g3
    have k4 : h4[4]? = some (.cells [I (f x)] false) := by rw [hh4, List.getElem?_set_ne (by simp)]; exact g4
    have k5 : h4[5]? = some .dfr := by rw [hh4, List.getElem?_set_ne (by simp)]; exact g5
    rw [hTS]
    simp (disch := first | assumption | omega | (simp only [az]; done)) only [ru, eq_self, if_true, if_false, BEq.rfl, binI, AO.row?, splice, fillL, mmAll, loadV, storeV, zeros, Am.rowAt, Am.part, addOff, Nat.reduceAdd, Nat.reduceMul, Nat.reduceLeDiff, Nat.reduceSub, Nat.reduceLT, Int.reduceEq, Int.reduceLT, Int.reduceLE, Int.reduceGT, Int.reduceGE, Int.reduceAdd, Int.reduceSub, Int.reduceMul, Int.reduceNeg, Int.reduceToNat, reduceCtorEq, reduceIte, k3, k4]
    refine finM (h' := h4.set 5 .tomb) (vs := [.ms 1 2 0 h.ps.length, I (f x), I 0]) (.inr rfl) (by simp) ?_ ?_ ?_
    · simp only [takeMarks, List.length_cons, List.length_nil, k5]
    · simp (disch := first | assumption | omega | (simp only [az]; done)) only [ru, eq_self, if_true, if_false, BEq.rfl, binI, AO.row?, splice, fillL, mmAll, loadV, storeV, zeros, Am.rowAt, Am.part, addOff, Nat.reduceAdd, Nat.reduceMul, Nat.reduceLeDiff, Nat.reduceSub, Nat.reduceLT, Int.reduceEq, Int.reduceLT, Int.reduceLE, Int.reduceGT, Int.reduceGE, Int.reduceAdd, Int.reduceSub, Int.reduceMul, Int.reduceNeg, Int.reduceToNat, reduceCtorEq, reduceIte, List.mapM_cons, List.mapM_nil, getRes, Option.bind_eq_bind, Option.pure_def, Option.bind_some]
    · have k2' : (h4.set 5 .tomb)[2]? = some (.cells (x.flatMap intL) false) := by rw [List.getElem?_set_ne (by omega)]; exact k2
      have vB := viewB (l := x) k2' (st := st) (n := 6)
      rw [xl] at vB
      simp only [view_tup, List.mapM_cons, List.mapM_nil, view_int, vB, Option.getD_some]; rfl
  · rintro q D F g hq L ⟨gp, g0, g1, g2, g3, g4, g5, g6⟩ hO
    have gp' : ∀ x ∈ D ++ [F], Pkg h x := fun x hx => by
      rcases List.mem_append.1 hx with hx | hx
      · exact gp x hx
      · rw [List.mem_singleton] at hx; rw [hx]; exact hO
    have := R_rnd_of (E := E) (lim := 0) (args := [.mr 1 q 0 F.length h.ps.length, .agg (lds h F)]) (P := fun r h' => r = Bo true ∧ (h'[0]? = some (.cells [k, I h.fl, p, b] false) ∧ h'[1]? = some (.cells [.fn K [] []] false) ∧ h'[2]? = some (.cells (bC h.ps.length f (D ++ [F])) false) ∧ h'[3]? = some (.cells [.ms 1 2 0 h.ps.length] false) ∧ h'[4]? = some (.cells [I (bL f (D ++ [F]))] false) ∧ h'[5]? = some .dfr ∧ h'[6]? = some (.loop .ready none 76 TS [21, 22] As76 Bd76 5)) ∧ Fk 7 g h') g6 rfl (Nat.zero_le _) ?_
    · obtain ⟨r, h', hr, rfl, hp, fk⟩ := this
      exact ⟨true, h', hr, .inl ⟨rfl, ⟨gp', hp⟩, fk⟩⟩
    have cK := hK F hO
    have fb := hf F hO
    have ll := lds_len (h := h) (x := F)
    have iv := lds_iv (h := h) (x := F)
    have bCl : (bC h.ps.length f D).length = h.ps.length := by
      unfold bC
      cases hb : bsf f D with
      | none => simp
      | some x =>
        have hD : D ≠ [] := by rintro rfl; cases hb
        obtain ⟨y, hy, hm, _⟩ := bsf_some (f := f) hD
        rw [hb] at hy
        obtain rfl := Option.some.inj hy
        simp only
        rw [flat1]; exact (gp _ hm).l
    have bw : bC h.ps.length f (D ++ [F]) = (if f F < bL f D then F.flatMap intL else bC h.ps.length f D) ∧ bL f (D ++ [F]) = (if f F < bL f D then f F else bL f D) := by
      unfold bC bL
      rw [bsf_snoc]
      cases hb : bsf f D with
      | none => simp only; rw [if_pos (by omega), if_pos (by omega)]; exact ⟨rfl, rfl⟩
      | some x => simp only; split <;> exact ⟨rfl, rfl⟩
    obtain ⟨Z, hZ⟩ : ∃ Z, Z = lds h F := ⟨_, rfl⟩
    rw [← hZ] at ll iv cK ⊢
    have tk : Z.take 16 = Z := List.take_of_length_le (by omega)
    rw [hTS]
    simp only [setAll, List.set_cons_succ, List.set_cons_zero]
    rw [← hTS]
    unfold As76
    simp (disch := first | assumption | omega | (simp only [az]; done)) only [ru, eq_self, if_true, if_false, BEq.rfl, binI, AO.row?, splice, fillL, mmAll, loadV, storeV, zeros, Am.rowAt, Am.part, addOff, Nat.reduceAdd, Nat.reduceMul, Nat.reduceLeDiff, Nat.reduceSub, Nat.reduceLT, Int.reduceEq, Int.reduceLT, Int.reduceLE, Int.reduceGT, Int.reduceGE, Int.reduceAdd, Int.reduceSub, Int.reduceMul, Int.reduceNeg, Int.reduceToNat, reduceCtorEq, reduceIte, rmr, ll, tk, iv_sc iv, atE, setE]
    have ho : 6 < g.length := (List.getElem?_eq_some_iff.1 g6).1
    refine ⟨none, 76, TS, [21, 22], As76, Bd76, 5, by rw [at_ap ho]; exact g6, ?_⟩
    obtain ⟨h6, hh6⟩ : ∃ h6, h6 = (g ++ [AO.cells Z false]).set 6 (AO.loop .busy none 76 TS [21, 22] As76 Bd76 5) := ⟨_, rfl⟩
    rw [← hh6]
    have n0 : h6[0]? = some (.cells [k, I h.fl, p, b] false) := by rw [hh6, List.getElem?_set_ne (by omega), at_ap (by omega)]; exact g0
    have n1 : h6[1]? = some (.cells [.fn K [] []] false) := by rw [hh6, List.getElem?_set_ne (by omega), at_ap (by omega)]; exact g1
    have n2 : h6[2]? = some (.cells (bC h.ps.length f D) false) := by rw [hh6, List.getElem?_set_ne (by omega), at_ap (by omega)]; exact g2
    have n3 : h6[3]? = some (.cells [.ms 1 2 0 h.ps.length] false) := by rw [hh6, List.getElem?_set_ne (by omega), at_ap (by omega)]; exact g3
    have n4 : h6[4]? = some (.cells [I (bL f D)] false) := by rw [hh6, List.getElem?_set_ne (by omega), at_ap (by omega)]; exact g4
    have n5 : h6[5]? = some .dfr := by rw [hh6, List.getElem?_set_ne (by omega), at_ap (by omega)]; exact g5
    have n6 : h6[6]? = some (AO.loop .busy none 76 TS [21, 22] As76 Bd76 5) := by rw [hh6, List.getElem?_set_self (by simp; omega)]
    have nz : h6[g.length]? = some (.cells Z false) := by rw [hh6, List.getElem?_set_ne (by omega)]; exact atE
    have l6 : h6.length = g.length + 1 := by rw [hh6]; simp
    have L6 : Lq h.ps.length h6 q F := by
      obtain ⟨C, c1, c2, c3⟩ := L
      have cl := (List.getElem?_eq_some_iff.1 c1).1
      exact ⟨C, by rw [hh6, List.getElem?_set_ne (by omega), at_ap cl]; exact c1, c2, c3⟩
    have old : ∀ j, 7 ≤ j → j < g.length → h6[j]? = g[j]? := fun j hj hl => by rw [hh6, List.getElem?_set_ne (by omega), at_ap hl]
    rw [bw.1, bw.2]
    unfold Bd76
    by_cases hlt : f F < bL f D
    · rw [if_pos hlt, if_pos hlt]
      obtain ⟨v, hv⟩ := cpy_all (lim := 0) L6 hO.l n2 bCl (Nat.zero_le _)
      have m4 : (h6.set 2 (AO.cells (F.flatMap intL) false))[4]? = some (.cells [I (bL f D)] false) := by rw [List.getElem?_set_ne (by omega)]; exact n4
      simp (disch := first | assumption | omega | (simp only [az]; done)) only [ru, eq_self, if_true, if_false, BEq.rfl, binI, AO.row?, splice, fillL, mmAll, loadV, storeV, zeros, Am.rowAt, Am.part, addOff, Nat.reduceAdd, Nat.reduceMul, Nat.reduceLeDiff, Nat.reduceSub, Nat.reduceLT, Int.reduceEq, Int.reduceLT, Int.reduceLE, Int.reduceGT, Int.reduceGE, Int.reduceAdd, Int.reduceSub, Int.reduceMul, Int.reduceNeg, Int.reduceToNat, reduceCtorEq, reduceIte, rmr, ll, tk, iv_sc iv, iv_view iv, iv_pure iv, exOp_callv1, List.nil_append, List.append_nil, n0, n1, n3, n4, nz, cK, hlt, decide_true, hv, m4]
      refine ⟨.busy, none, 76, TS, [21, 22], As76, Bd76, 5, by rw [List.getElem?_set_ne (by omega), List.getElem?_set_ne (by omega)]; exact n6, ?_⟩
      refine ⟨⟨?_, ?_, ?_, ?_, ?_, ?_, ?_⟩, ⟨by simp [l6], fun j hj hl => ?_⟩⟩
      · rw [List.getElem?_set_ne (by omega), List.getElem?_set_ne (by omega), List.getElem?_set_ne (by omega)]; exact n0
      · rw [List.getElem?_set_ne (by omega), List.getElem?_set_ne (by omega), List.getElem?_set_ne (by omega)]; exact n1
      · rw [List.getElem?_set_ne (by omega), List.getElem?_set_ne (by omega), List.getElem?_set_self (by rw [l6]; omega)]
      · rw [List.getElem?_set_ne (by omega), List.getElem?_set_ne (by omega), List.getElem?_set_ne (by omega)]; exact n3
      · rw [List.getElem?_set_ne (by omega), List.getElem?_set_self (by simp; omega)]
      · rw [List.getElem?_set_ne (by omega), List.getElem?_set_ne (by omega), List.getElem?_set_ne (by omega)]; exact n5
      · rw [List.getElem?_set_self (by simp; omega)]; rfl
      · rw [List.getElem?_set_ne (by omega), List.getElem?_set_ne (by omega), List.getElem?_set_ne (by omega)]; exact old j hj hl
    · rw [if_neg hlt, if_neg hlt]
      simp (disch := first | assumption | omega | (simp only [az]; done)) only [ru, eq_self, if_true, if_false, BEq.rfl, binI, AO.row?, splice, fillL, mmAll, loadV, storeV, zeros, Am.rowAt, Am.part, addOff, Nat.reduceAdd, Nat.reduceMul, Nat.reduceLeDiff, Nat.reduceSub, Nat.reduceLT, Int.reduceEq, Int.reduceLT, Int.reduceLE, Int.reduceGT, Int.reduceGE, Int.reduceAdd, Int.reduceSub, Int.reduceMul, Int.reduceNeg, Int.reduceToNat, reduceCtorEq, reduceIte, rmr, ll, tk, iv_sc iv, iv_view iv, iv_pure iv, exOp_callv1, List.nil_append, List.append_nil, n0, n1, n3, n4, nz, cK, hlt, decide_false]
      refine ⟨.busy, none, 76, TS, [21, 22], As76, Bd76, 5, n6, ?_⟩
      refine ⟨⟨?_, ?_, ?_, ?_, ?_, ?_, ?_⟩, ⟨by simp [l6], fun j hj hl => ?_⟩⟩
      · rw [List.getElem?_set_ne (by omega)]; exact n0
      · rw [List.getElem?_set_ne (by omega)]; exact n1
      · rw [List.getElem?_set_ne (by omega)]; exact n2
      · rw [List.getElem?_set_ne (by omega)]; exact n3
      · rw [List.getElem?_set_ne (by omega)]; exact n4
      · rw [List.getElem?_set_ne (by omega)]; exact n5
      · rw [List.getElem?_set_self (by omega)]; rfl
      · rw [List.getElem?_set_ne (by omega)]; exact old j hj hl
end
end Go.Proofs.Ytcdedbpmjhjehaa.S

/-
The program: all barrels of which something is so in some packing.
-/
namespace Go.Proofs.Ytcdedbpmjhjehaa.S
open Go Go.Am Go.Proofs.Ytcdedbpmjhjehaa.T
set_option maxRecDepth 100000
set_option linter.unusedSimpArgs false
set_option linter.unusedVariables false

/-- four marks -/
def m4 (F : Nat → Bool) : List AV := (List.range 4).map fun i => Bo (F i)
theorem m4_len {F : Nat → Bool} : (m4 F).length = 4 := by simp [m4]
theorem m4_get {F : Nat → Bool} {i : Nat} (h : i < 4) : ((m4 F).drop i).head? = some (Bo (F i)) := by
  rw [List.head?_drop]; simp [m4, h]
theorem m4_set {F F' : Nat → Bool} {i : Nat} {c : Bool} (h : i < 4) (he : ∀ j, F' j = if j = i then c else F j) : (m4 F).set i (Bo c) = m4 F' := by
  refine List.ext_getElem (by simp [m4]) fun j h1 h2 => ?_
  simp only [m4, List.getElem_set, List.getElem_map, List.getElem_range, he]
  by_cases e : i = j
  · subst e; simp
  · rw [if_neg e, if_neg (fun h => e h.symm)]
theorem splice1 {c : List AV} {i : Nat} {x : AV} (h : i < c.length) : splice c i [x] = c.set i x := by
  rw [List.set_eq_take_append_cons_drop, if_pos h]
  simp [splice]
def fnj (w : List Int → Nat → Bool) (D : List (List Int)) (F : List Int) (nb j : Nat) : Nat → Bool := fun i => (decide (i < nb) && D.any fun x => w x i) || (decide (i < j) && w F i)
def fnd (w : List Int → Nat → Bool) (D : List (List Int)) (nb : Nat) : Nat → Bool := fun i => decide (i < nb) && D.any fun x => w x i
theorem fnj_zero {w : List Int → Nat → Bool} {D : List (List Int)} {F : List Int} {nb : Nat} : fnj w D F nb 0 = fnd w D nb := by
  funext i; simp [fnj, fnd]
theorem fnj_all {w : List Int → Nat → Bool} {D : List (List Int)} {F : List Int} {nb : Nat} : fnj w D F nb nb = fnd w (D ++ [F]) nb := by
  funext i
  simp only [fnj, fnd, List.any_append, List.any_cons, List.any_nil, Bool.or_false]
  cases decide (i < nb) <;> simp
theorem fnj_succ {w : List Int → Nat → Bool} {D : List (List Int)} {F : List Int} {nb j i : Nat} : fnj w D F nb (j + 1) i = if i = j then (fnj w D F nb j j || w F j) else fnj w D F nb j i := by
  unfold fnj
  by_cases e : i = j
  · subst e; simp
  · rw [if_neg e]
    have : decide (i < j + 1) = decide (i < j) := by rw [decide_eq_decide]; omega
    rw [this]
def As81 : ACode := .seq (.region 0 [oP 7 (.move (.t 17))]) (.region 0 [oQ 8 (.alloc [I 0, I 0, I 0, I 0, I 0, I 0, I 0, I 0, I 0, I 0, I 0, I 0, I 0, I 0, I 0, I 0]), ⟨none, .store 16 (.t 8) (.t 18), none, none, []⟩])
def Bd81 : ACode := .block 1 (.seq (.region 0 [oP 19 (.fieldAddr 3 (.t 2)), oQ 20 (.load false 1 (.t 19)), oP 21 (.lenS (.t 20)), oP 22 (.move (.c (I 0)))])
  (.block 2 (.loop (.seq (.region 0 [oP 23 (.bin .lss (.t 22) (.t 21))])
    (.seq (.cond (.t 23) .skip (.exit 2))
    (.seq (.block 3 (.seq (.region 0 [oP 24 (.move (.t 22)), oP 9 (.move (.t 24))])
      (.region 0 [oP 25 (.move (.t 9)), oP 26 (.move (.t 9)), oP 27 (.idxArr 4 1 (.t 6) (.t 26)), oQ 28 (.load false 1 (.t 27)), oP 29 (.move (.t 28)),
        ⟨some 30, .load false 1 (.t 3), some (29, false), none, []⟩, oG 31 29 false (.move (.t 7)), ⟨some 32, .load true 16 (.t 8), some (29, false), none, []⟩, oG 33 29 false (.move (.t 9)),
        ⟨some 34, .callv true (.t 30) [.t 31, .t 32, .t 33], some (29, false), none, []⟩, oP 35 (.pick (.t 29) (.c (Bo true)) (.t 34)), oP 36 (.idxArr 4 1 (.t 6) (.t 25)), ⟨none, .store 1 (.t 36) (.t 35), none, none, []⟩])))
    (.region 0 [oP 37 (.bin .add (.t 22) (.c (I 1))), oP 22 (.move (.t 37))])))))))

section
variable {h : Hs} {k p b : AV}
set_option maxHeartbeats 8000000 in
theorem r81 (H : HsOk h k p b) (G : HG h) {K : Nat} {cap : List AV} {w : List Int → Nat → Bool} {C : List AO → Prop} {g0 : List AO} (hC : ∀ g, (∀ j, j < g0.length → g[j]? = g0[j]?) → C g)
    (hK : ∀ x, Pkg h x → ∀ q g, C g → Lq h.ps.length g q x → ∀ c : Nat, c < h.bs.length → Ro E K ([.mr 1 q 0 x.length h.ps.length, .agg (lds h x), I c] ++ cap) g = some (Bo (w x c))) :
    ∃ v g', R E (.fn 81) [hsV h.fl k p b, .fn K [] cap] g0 0 = some (.tup [v, I (if h.pk = [] then 3 else 0)], g') ∧ ∀ st n, Am.view st g' (n + 1) v = some (resL (idx (fun c => h.pk.any fun x => w x c) h.bs.length)) := by
  have np := G.np; have nb := G.nb
  have c98 := fun st => s98 H G st
  simp only [hsV] at c98
  suffices key : ∃ r g', R E (.fn 81) [hsV h.fl k p b, .fn K [] cap] g0 0 = some (r, g') ∧ ∃ v, r = .tup [v, I (if h.pk = [] then 3 else 0)] ∧ ∀ st n, Am.view st g' (n + 1) v = some (resL (idx (fun c => h.pk.any fun x => w x c) h.bs.length)) by
    obtain ⟨r, g', hr, v, rfl, hv⟩ := key; exact ⟨v, g', hr, hv⟩
  refine R_of (fun r g' => ∃ v, r = .tup [v, I (if h.pk = [] then 3 else 0)] ∧ ∀ st n, Am.view st g' (n + 1) v = some (resL (idx (fun c => h.pk.any fun x => w x c) h.bs.length))) (es _ _ _ _) e81 ?_
  simp only [f81, hsV]
  have at3 : ∀ a b : AO, (g0 ++ [a] ++ [b])[g0.length]? = some a := fun a b => by simp
  by_cases hpk : h.pk = []
  · have e : decide (h.pk ≠ []) = false := decide_eq_false fun hn => hn hpk
    rw [e] at c98
    have e0 : idx (fun c => h.pk.any fun x => w x c) h.bs.length = [] := by
      rw [hpk]; simp [idx]
    rw [if_pos hpk, e0]
    simp (disch := first | assumption | omega | (simp only [az]; done)) only [ru, eq_self, if_true, if_false, BEq.rfl, binI, AO.row?, splice, fillL, mmAll, loadV, storeV, zeros, Am.rowAt, Am.part, addOff, Nat.reduceAdd, Nat.reduceMul, Nat.reduceLeDiff, Nat.reduceSub, Nat.reduceLT, Int.reduceEq, Int.reduceLT, Int.reduceLE, Int.reduceGT, Int.reduceGE, Int.reduceAdd, Int.reduceSub, Int.reduceMul, Int.reduceNeg, Int.reduceToNat, reduceCtorEq, reduceIte, lenV_sl H.k, lenV_sl H.p, lenV_sl H.b, elem_kd H.k, elem_pr H.p, elem_in H.b, view_sl H.k, view_sl H.p, view_sl H.b, scalar_sl H.k, scalar_sl H.p, scalar_sl H.b, cells_sl H.k, cells_sl H.p, cells_sl H.b, pure_sl H.k, pure_sl H.p, pure_sl H.b, Int.toNat_natCast, at3, lenE, c98, Bool.not_false]
    exact ⟨.nils, rfl, fun st n => rfl⟩
  have e : decide (h.pk ≠ []) = true := decide_eq_true hpk
  rw [e] at c98
  rw [if_neg hpk]
  have fz : [Bo false, Bo false, Bo false, Bo false] = m4 (fnd w [] h.bs.length) := by simp [m4, fnd, List.range_succ]
  obtain ⟨g3, hg3⟩ : ∃ g3 : List AO, g3 = g0 ++ [HHC h k p b] ++ [.cells [.fn K [] cap] false] ++ [.cells [Bo false, Bo false, Bo false, Bo false] false] := ⟨_, rfl⟩
  simp (disch := first | assumption | omega | (simp only [az]; done)) only [ru, eq_self, if_true, if_false, BEq.rfl, binI, AO.row?, splice, fillL, mmAll, loadV, storeV, zeros, Am.rowAt, Am.part, addOff, Nat.reduceAdd, Nat.reduceMul, Nat.reduceLeDiff, Nat.reduceSub, Nat.reduceLT, Int.reduceEq, Int.reduceLT, Int.reduceLE, Int.reduceGT, Int.reduceGE, Int.reduceAdd, Int.reduceSub, Int.reduceMul, Int.reduceNeg, Int.reduceToNat, reduceCtorEq, reduceIte, lenV_sl H.k, lenV_sl H.p, lenV_sl H.b, elem_kd H.k, elem_pr H.p, elem_in H.b, view_sl H.k, view_sl H.p, view_sl H.b, scalar_sl H.k, scalar_sl H.p, scalar_sl H.b, cells_sl H.k, cells_sl H.p, cells_sl H.b, pure_sl H.k, pure_sl H.p, pure_sl H.b, Int.toNat_natCast, at3, lenE, c98, Bool.not_true]
  rw [← hg3]
  have l3 : g3.length = g0.length + 3 := by rw [hg3]; simp
  have x0 : g3[g0.length]? = some (HHC h k p b) := by rw [hg3]; simp
  have x1 : g3[g0.length + 1]? = some (.cells [.fn K [] cap] false) := by rw [hg3]; simp
  have x2 : g3[g0.length + 2]? = some (.cells (m4 (fnd w [] h.bs.length)) false) := by rw [hg3, fz]; simp
  have xo : ∀ j, j < g0.length → g3[j]? = g0[j]? := fun j hj => by rw [hg3, List.append_assoc, List.append_assoc, List.getElem?_append_left hj]
  clear hg3
  obtain ⟨TS, hTS⟩ : ∃ TS : List AV, TS = [.agg [k, I h.fl, p, b], .fn K [] cap, .ptr g0.length 0, .ptr (g0.length + 1) 0, .nils, I 0, .ptr (g0.length + 1 + 1) 0, .undef, .undef, .undef, .undef, .undef, .agg [k, I h.fl, p, b], Bo true, Bo false, .agg [k, I h.fl, p, b], .fn 99 [.agg [k, I h.fl, p, b]] []] ++ List.replicate 36 .undef := ⟨_, rfl⟩
  have key := r99 H G (o := g3.length + 1) (lim := 0) (by omega) (Q := fun _ => False)
    (P := fun D g => g[g0.length]? = some (HHC h k p b) ∧ g[g0.length + 1]? = some (.cells [.fn K [] cap] false) ∧ g[g0.length + 2]? = some (.cells (m4 (fnd w D h.bs.length)) false) ∧ (∀ j, j < g0.length → g[j]? = g0[j]?) ∧ g[g3.length]? = some .dfr ∧ g[g3.length + 1]? = some (.loop .ready none 81 TS [17, 18] As81 Bd81 g3.length))
    (by rintro D h h' ⟨a, b, c, d, e, f⟩ fr; exact ⟨fr.at (by omega) a, fr.at (by omega) b, fr.at (by omega) c, fun j hj => by rw [fr.k j (by omega)]; exact d j hj, fr.at (by omega) e, fr.at (by omega) f⟩) ?_ (g := g3 ++ [.dfr, .loop .ready none 81 TS [17, 18] As81 Bd81 g3.length]) (by simp) ⟨by rw [at_ap (by omega)]; exact x0, by rw [at_ap (by omega)]; exact x1, by rw [at_ap (by omega)]; exact x2, fun j hj => by rw [at_ap (by omega)]; exact xo j hj, by simp, by simp⟩
  · refine G_range_of rfl rfl ?_
    obtain ⟨r, h3, hr, ⟨y0, y1, y2, yo, y3, y4⟩ | hf⟩ := key
    case inr => exact hf.elim
    refine ⟨r, h3, .ready, none, 81, TS, [17, 18], As81, Bd81, g3.length, ?_, y4, .inl rfl, ?_⟩
    · rw [hTS] at hr; exact hr
    simp only [Option.getD_none, GE_nrm]
    obtain ⟨h4, hh4⟩ : ∃ h4, h4 = h3.set (g3.length + 1) (AO.loop .exhausted none 81 TS [17, 18] As81 Bd81 g3.length) := ⟨_, rfl⟩
    rw [← hh4]
    have z0 : h4[g0.length]? = some (HHC h k p b) := by rw [hh4, List.getElem?_set_ne (by omega)]; exact y0
    have z2 : h4[g0.length + 1 + 1]? = some (.cells (m4 (fnd w h.pk h.bs.length)) false) := by rw [hh4, List.getElem?_set_ne (by omega)]; exact y2
    have z3 : h4[g3.length]? = some .dfr := by rw [hh4, List.getElem?_set_ne (by omega)]; exact y3
    have l4 : g3.length + 1 < h4.length := by rw [hh4, List.length_set]; exact (List.getElem?_eq_some_iff.1 y4).1
    clear hr hh4 y0 y1 y2 y3 y4 yo
    simp (disch := first | assumption | omega | (simp only [az]; done)) only [ru, eq_self, if_true, if_false, BEq.rfl, binI, AO.row?, splice, fillL, mmAll, loadV, storeV, zeros, Am.rowAt, Am.part, addOff, Nat.reduceAdd, Nat.reduceMul, Nat.reduceLeDiff, Nat.reduceSub, Nat.reduceLT, Int.reduceEq, Int.reduceLT, Int.reduceLE, Int.reduceGT, Int.reduceGE, Int.reduceAdd, Int.reduceSub, Int.reduceMul, Int.reduceNeg, Int.reduceToNat, reduceCtorEq, reduceIte, lenV_sl H.k, lenV_sl H.p, lenV_sl H.b, elem_kd H.k, elem_pr H.p, elem_in H.b, view_sl H.k, view_sl H.p, view_sl H.b, scalar_sl H.k, scalar_sl H.p, scalar_sl H.b, cells_sl H.k, cells_sl H.p, cells_sl H.b, pure_sl H.k, pure_sl H.p, pure_sl H.b, Int.toNat_natCast, z0]
    refine G_loop_ind (fun m ts hh mk => ∃ (i : Nat) (o : AV), i ≤ h.bs.length ∧ m = h.bs.length - i ∧ OutE intL 1 h4.length hh o (idx (fun c => h.pk.any fun x => w x c) i) ∧ h4.length ≤ hh.length ∧ (∀ j, j < h4.length → hh[j]? = h4[j]?) ∧ ts.length = 53 ∧ ts.getD 6 .undef = .ptr (g0.length + 1 + 1) 0 ∧ ts.getD 10 .undef = o ∧ ts.getD 40 .undef = I h.bs.length ∧ ts.getD 41 .undef = I i ∧ mk = [g3.length]) ?_ _ _ _ _
      ⟨0, .nils, Nat.zero_le _, rfl, .inl ⟨rfl, rfl⟩, Nat.le_refl _, fun _ _ => rfl, rfl, rfl, rfl, rfl, rfl, rfl⟩
    rintro m ts hh mk ih ⟨i, o, hi', rfl, ho, hl4, hk4, hl', q6, q10, q40, q41, rfl⟩
    rw [lit_all hl']
    simp only [lit0, litS, Nat.reduceAdd, q6, q10, q40, q41]
    simp (disch := first | assumption | omega | (simp only [az]; done)) only [ru, eq_self, if_true, if_false, BEq.rfl, binI, AO.row?, splice, fillL, mmAll, loadV, storeV, zeros, Am.rowAt, Am.part, addOff, Nat.reduceAdd, Nat.reduceMul, Nat.reduceLeDiff, Nat.reduceSub, Nat.reduceLT, Int.reduceEq, Int.reduceLT, Int.reduceLE, Int.reduceGT, Int.reduceGE, Int.reduceAdd, Int.reduceSub, Int.reduceMul, Int.reduceNeg, Int.reduceToNat, reduceCtorEq, reduceIte]
    by_cases hlt : (i : Int) < h.bs.length
    case pos =>
      have hi2 : i < h.bs.length := by omega
      have li := idx_len (f := fun c => h.pk.any fun x => w x c) (n := i)
      obtain ⟨v', h', A, ho', hl5, hk5⟩ := outE_ap (eb := 8) (lim := 0) intE intSc (by omega) (by omega) (by omega) ho hl4 (Nat.zero_le _) (by omega) (i : Int)
      have es := idx_succ (f := fun c => h.pk.any fun x => w x c) (n := i)
      have zz : hh[g0.length + 1 + 1]? = some (.cells (m4 (fnd w h.pk h.bs.length)) false) := by rw [hk4 _ (by omega)]; exact z2
      have gm := m4_get (F := fnd w h.pk h.bs.length) (i := i) (by omega)
      have ef : fnd w h.pk h.bs.length i = h.pk.any fun x => w x i := by unfold fnd; rw [decide_eq_true hi2, Bool.true_and]
      rw [ef] at gm
      have w0 : (0 : Int) ≤ i := by omega
      have w4 : (i : Int) < 4 := by omega
      obtain ⟨M, hM⟩ : ∃ M, M = m4 (fnd w h.pk h.bs.length) := ⟨_, rfl⟩
      rw [← hM] at zz gm
      cases hc : h.pk.any fun x => w x i
      · rw [hc] at gm es
        simp only [Bool.false_eq_true, if_false, List.append_nil] at es
        simp (disch := first | assumption | omega | (simp only [az]; done)) only [ru, eq_self, if_true, if_false, BEq.rfl, binI, AO.row?, splice, fillL, mmAll, loadV, storeV, zeros, Am.rowAt, Am.part, addOff, Nat.reduceAdd, Nat.reduceMul, Nat.reduceLeDiff, Nat.reduceSub, Nat.reduceLT, Int.reduceEq, Int.reduceLT, Int.reduceLE, Int.reduceGT, Int.reduceGE, Int.reduceAdd, Int.reduceSub, Int.reduceMul, Int.reduceNeg, Int.reduceToNat, reduceCtorEq, reduceIte, hlt, w0, w4, zz, gm, Int.toNat_natCast, Nat.mul_one]
        exact ih (h.bs.length - (i + 1)) _ _ _ (by omega) ⟨i + 1, _, by omega, rfl, by rw [es]; exact ho, hl4, hk4, rfl, rfl, rfl, rfl, rfl, rfl⟩
      · rw [hc] at gm es
        simp only [if_true] at es
        simp (disch := first | assumption | omega | (simp only [az]; done)) only [ru, eq_self, if_true, if_false, BEq.rfl, binI, AO.row?, splice, fillL, mmAll, loadV, storeV, zeros, Am.rowAt, Am.part, addOff, Nat.reduceAdd, Nat.reduceMul, Nat.reduceLeDiff, Nat.reduceSub, Nat.reduceLT, Int.reduceEq, Int.reduceLT, Int.reduceLE, Int.reduceGT, Int.reduceGE, Int.reduceAdd, Int.reduceSub, Int.reduceMul, Int.reduceNeg, Int.reduceToNat, reduceCtorEq, reduceIte, hlt, w0, w4, zz, gm, A, Int.toNat_natCast, Nat.mul_one]
        exact ih (h.bs.length - (i + 1)) _ _ _ (by omega) ⟨i + 1, _, by omega, rfl, by rw [es]; exact ho', hl5, fun j hj => by rw [hk5 j hj]; exact hk4 j hj, rfl, rfl, rfl, rfl, rfl, rfl⟩
    obtain rfl : i = h.bs.length := by omega
    simp (disch := first | assumption | omega | (simp only [az]; done)) only [ru, eq_self, if_true, if_false, BEq.rfl, binI, AO.row?, splice, fillL, mmAll, loadV, storeV, zeros, Am.rowAt, Am.part, addOff, Nat.reduceAdd, Nat.reduceMul, Nat.reduceLeDiff, Nat.reduceSub, Nat.reduceLT, Int.reduceEq, Int.reduceLT, Int.reduceLE, Int.reduceGT, Int.reduceGE, Int.reduceAdd, Int.reduceSub, Int.reduceMul, Int.reduceNeg, Int.reduceToNat, reduceCtorEq, reduceIte, hlt]
    refine finM (h' := hh.set g3.length .tomb) (vs := [o, I 0]) (.inr rfl) (by simp) ?_ ?_ ?_
    · have zd : hh[g3.length]? = some .dfr := by rw [hk4 _ (by omega)]; exact z3
      simp only [takeMarks, zd]
    · simp (disch := first | assumption | omega | (simp only [az]; done)) only [ru, eq_self, if_true, if_false, BEq.rfl, binI, AO.row?, splice, fillL, mmAll, loadV, storeV, zeros, Am.rowAt, Am.part, addOff, Nat.reduceAdd, Nat.reduceMul, Nat.reduceLeDiff, Nat.reduceSub, Nat.reduceLT, Int.reduceEq, Int.reduceLT, Int.reduceLE, Int.reduceGT, Int.reduceGE, Int.reduceAdd, Int.reduceSub, Int.reduceMul, Int.reduceNeg, Int.reduceToNat, reduceCtorEq, reduceIte, List.mapM_cons, List.mapM_nil, getRes, Option.bind_eq_bind, Option.pure_def, Option.bind_some]
    · refine ⟨o, rfl, fun st n => ?_⟩
      have ho2 : OutE intL 1 h4.length (hh.set g3.length .tomb) o (idx (fun c => h.pk.any fun x => w x c) h.bs.length) := by
        rcases ho with h1 | ⟨hne, o', hb, e, hc⟩
        · exact .inl h1
        · exact .inr ⟨hne, o', hb, e, by rw [List.getElem?_set_ne (by omega)]; exact hc⟩
      exact ho2.viewL
  · rintro q D F g hq L ⟨y0, y1, y2, yo, y3, y4⟩ hO
    have := R_rnd_of (E := E) (lim := 0) (args := [.mr 1 q 0 F.length h.ps.length, .agg (lds h F)]) (P := fun r h' => r = Bo true ∧ (h'[g0.length]? = some (HHC h k p b) ∧ h'[g0.length + 1]? = some (.cells [.fn K [] cap] false) ∧ h'[g0.length + 2]? = some (.cells (m4 (fnd w (D ++ [F]) h.bs.length)) false) ∧ (∀ j, j < g0.length → h'[j]? = g0[j]?) ∧ h'[g3.length]? = some .dfr ∧ h'[g3.length + 1]? = some (.loop .ready none 81 TS [17, 18] As81 Bd81 g3.length)) ∧ Fk (g3.length + 1 + 1) g h') y4 rfl (Nat.zero_le _) ?_
    · obtain ⟨r, h', hr, rfl, hp, fk⟩ := this
      exact ⟨true, h', hr, .inl ⟨rfl, hp, fk⟩⟩
    have cK := hK F hO
    have ll := lds_len (h := h) (x := F)
    have iv := lds_iv (h := h) (x := F)
    obtain ⟨Z, hZ⟩ : ∃ Z, Z = lds h F := ⟨_, rfl⟩
    rw [← hZ] at ll iv cK ⊢
    have tk : Z.take 16 = Z := List.take_of_length_le (by omega)
    rw [hTS]
    simp only [setAll, List.set_cons_succ, List.set_cons_zero, List.replicate_succ, List.replicate_zero, List.cons_append, List.nil_append]
    unfold As81
    simp (disch := first | assumption | omega | (simp only [az]; done)) only [ru, eq_self, if_true, if_false, BEq.rfl, binI, AO.row?, splice, fillL, mmAll, loadV, storeV, zeros, Am.rowAt, Am.part, addOff, Nat.reduceAdd, Nat.reduceMul, Nat.reduceLeDiff, Nat.reduceSub, Nat.reduceLT, Int.reduceEq, Int.reduceLT, Int.reduceLE, Int.reduceGT, Int.reduceGE, Int.reduceAdd, Int.reduceSub, Int.reduceMul, Int.reduceNeg, Int.reduceToNat, reduceCtorEq, reduceIte, rmr, ll, tk, iv_sc iv, atE, setE]
    have ho : g3.length + 1 < g.length := (List.getElem?_eq_some_iff.1 y4).1
    refine ⟨none, 81, TS, [17, 18], As81, Bd81, g3.length, by rw [at_ap ho]; exact y4, ?_⟩
    obtain ⟨h6, hh6⟩ : ∃ h6, h6 = (g ++ [AO.cells Z false]).set (g3.length + 1) (AO.loop .busy none 81 TS [17, 18] As81 Bd81 g3.length) := ⟨_, rfl⟩
    rw [← hh6]
    have n0 : h6[g0.length]? = some (HHC h k p b) := by rw [hh6, List.getElem?_set_ne (by omega), at_ap (by omega)]; exact y0
    have n1 : h6[g0.length + 1]? = some (.cells [.fn K [] cap] false) := by rw [hh6, List.getElem?_set_ne (by omega), at_ap (by omega)]; exact y1
    have n2 : h6[g0.length + 2]? = some (.cells (m4 (fnj w D F h.bs.length 0)) false) := by rw [fnj_zero, hh6, List.getElem?_set_ne (by omega), at_ap (by omega)]; exact y2
    have n3 : h6[g3.length]? = some .dfr := by rw [hh6, List.getElem?_set_ne (by omega), at_ap (by omega)]; exact y3
    have n4 : h6[g3.length + 1]? = some (AO.loop .busy none 81 TS [17, 18] As81 Bd81 g3.length) := by rw [hh6, List.getElem?_set_self (by simp; omega)]
    have nz : h6[g.length]? = some (.cells Z false) := by rw [hh6, List.getElem?_set_ne (by omega)]; exact atE
    have no : ∀ j, j < g0.length → h6[j]? = g0[j]? := fun j hj => by rw [hh6, List.getElem?_set_ne (by omega), at_ap (by omega)]; exact yo j hj
    have l6 : h6.length = g.length + 1 := by rw [hh6]; simp
    have L6 : Lq h.ps.length h6 q F := by
      obtain ⟨C, c1, c2, c3⟩ := L
      have cl := (List.getElem?_eq_some_iff.1 c1).1
      exact ⟨C, by rw [hh6, List.getElem?_set_ne (by omega), at_ap cl]; exact c1, c2, c3⟩
    have old : ∀ j, g3.length + 1 + 1 ≤ j → j < g.length → h6[j]? = g[j]? := fun j hj hl => by rw [hh6, List.getElem?_set_ne (by omega), at_ap hl]
    unfold Bd81
    simp (disch := first | assumption | omega | (simp only [az]; done)) only [ru, eq_self, if_true, if_false, BEq.rfl, binI, AO.row?, splice, fillL, mmAll, loadV, storeV, zeros, Am.rowAt, Am.part, addOff, Nat.reduceAdd, Nat.reduceMul, Nat.reduceLeDiff, Nat.reduceSub, Nat.reduceLT, Int.reduceEq, Int.reduceLT, Int.reduceLE, Int.reduceGT, Int.reduceGE, Int.reduceAdd, Int.reduceSub, Int.reduceMul, Int.reduceNeg, Int.reduceToNat, reduceCtorEq, reduceIte, lenV_sl H.k, lenV_sl H.p, lenV_sl H.b, elem_kd H.k, elem_pr H.p, elem_in H.b, view_sl H.k, view_sl H.p, view_sl H.b, scalar_sl H.k, scalar_sl H.p, scalar_sl H.b, cells_sl H.k, cells_sl H.p, cells_sl H.b, pure_sl H.k, pure_sl H.p, pure_sl H.b, Int.toNat_natCast, n0]
    refine G_loop_ind (fun m ts hh mk => ∃ (j : Nat), j ≤ h.bs.length ∧ m = h.bs.length - j ∧ hh.length = h6.length ∧ (∀ i, i ≠ g0.length + 2 → hh[i]? = h6[i]?) ∧ hh[g0.length + 2]? = some (.cells (m4 (fnj w D F h.bs.length j)) false) ∧ ts.length = 53 ∧ ts.getD 3 .undef = .ptr (g0.length + 1) 0 ∧ ts.getD 6 .undef = .ptr (g0.length + 1 + 1) 0 ∧ ts.getD 7 .undef = .mr 1 q 0 F.length h.ps.length ∧ ts.getD 8 .undef = .ptr g.length 0 ∧ ts.getD 21 .undef = I h.bs.length ∧ ts.getD 22 .undef = I j ∧ mk = []) ?_ _ _ _ _
      ⟨0, Nat.zero_le _, rfl, rfl, fun _ _ => rfl, n2, rfl, rfl, rfl, rfl, rfl, rfl, rfl, rfl⟩
    rintro m ts hh mk ih ⟨j, hj, rfl, hhl, hho, hhm, hl', q3, q6, q7, q8, q21, q22, rfl⟩
    rw [lit_all hl']
    simp only [lit0, litS, Nat.reduceAdd, q3, q6, q7, q8, q21, q22]
    simp (disch := first | assumption | omega | (simp only [az]; done)) only [ru, eq_self, if_true, if_false, BEq.rfl, binI, AO.row?, splice, fillL, mmAll, loadV, storeV, zeros, Am.rowAt, Am.part, addOff, Nat.reduceAdd, Nat.reduceMul, Nat.reduceLeDiff, Nat.reduceSub, Nat.reduceLT, Int.reduceEq, Int.reduceLT, Int.reduceLE, Int.reduceGT, Int.reduceGE, Int.reduceAdd, Int.reduceSub, Int.reduceMul, Int.reduceNeg, Int.reduceToNat, reduceCtorEq, reduceIte]
    by_cases hlt : (j : Int) < h.bs.length
    case pos =>
      have hj2 : j < h.bs.length := by omega
      have d1 : hh[g0.length + 1]? = some (.cells [.fn K [] cap] false) := by rw [hho _ (by omega)]; exact n1
      have dz : hh[g.length]? = some (.cells Z false) := by rw [hho _ (by omega)]; exact nz
      have Lh : Lq h.ps.length hh q F := by
        obtain ⟨C, c1, c2, c3⟩ := L6
        exact ⟨C, by rw [hho _ (by omega)]; exact c1, c2, c3⟩
      have ck := cK q hh (hC hh fun i hi => by rw [hho _ (by omega)]; exact no i hi) Lh j hj2
      simp only [List.cons_append, List.nil_append] at ck
      have gm := m4_get (F := fnj w D F h.bs.length j) (i := j) (by omega)
      have ml := m4_len (F := fnj w D F h.bs.length j)
      have es := fun i => fnj_succ (w := w) (D := D) (F := F) (nb := h.bs.length) (j := j) (i := i)
      have w0 : (0 : Int) ≤ j := by omega
      have w4 : (j : Int) < 4 := by omega
      have b2 : g0.length + 1 + 1 < hh.length := by omega
      have mset : ∀ c, (c = (fnj w D F h.bs.length j j || w F j)) → splice (m4 (fnj w D F h.bs.length j)) j [Bo c] = m4 (fnj w D F h.bs.length (j + 1)) := fun c hc => by
        rw [splice1 (by rw [ml]; omega)]
        exact m4_set (by omega) fun i => by rw [es i, hc]
      have fitj : j + 1 ≤ 4 := by omega
      obtain ⟨M, hM⟩ : ∃ M, M = m4 (fnj w D F h.bs.length j) := ⟨_, rfl⟩
      rw [← hM] at gm ml mset hhm
      cases hc : fnj w D F h.bs.length j j
      · rw [hc] at gm
        simp (disch := first | assumption | omega | (simp only [az]; done)) only [ru, eq_self, if_true, if_false, BEq.rfl, binI, AO.row?, splice, fillL, mmAll, loadV, storeV, zeros, Am.rowAt, Am.part, addOff, Nat.reduceAdd, Nat.reduceMul, Nat.reduceLeDiff, Nat.reduceSub, Nat.reduceLT, Int.reduceEq, Int.reduceLT, Int.reduceLE, Int.reduceGT, Int.reduceGE, Int.reduceAdd, Int.reduceSub, Int.reduceMul, Int.reduceNeg, Int.reduceToNat, reduceCtorEq, reduceIte, rmr, hlt, w0, w4, ll, tk, iv_sc iv, hhm, gm, ml, fitj, d1, dz, ck, exOp_callv1, List.nil_append, List.cons_append, List.append_nil, Int.toNat_natCast, Nat.mul_one]
        refine ih (h.bs.length - (j + 1)) _ _ _ (by omega) ⟨j + 1, by omega, rfl, ?_, ?_, ?_, rfl, rfl, rfl, rfl, rfl, rfl, rfl, rfl⟩
        · simp [hhl]
        · intro i hi; rw [List.getElem?_set_ne (by omega)]; exact hho i hi
        · rw [List.getElem?_set_self (by omega), ← mset (w F j) (by rw [hc, Bool.false_or])]; simp [splice]
      · rw [hc] at gm
        simp (disch := first | assumption | omega | (simp only [az]; done)) only [ru, eq_self, if_true, if_false, BEq.rfl, binI, AO.row?, splice, fillL, mmAll, loadV, storeV, zeros, Am.rowAt, Am.part, addOff, Nat.reduceAdd, Nat.reduceMul, Nat.reduceLeDiff, Nat.reduceSub, Nat.reduceLT, Int.reduceEq, Int.reduceLT, Int.reduceLE, Int.reduceGT, Int.reduceGE, Int.reduceAdd, Int.reduceSub, Int.reduceMul, Int.reduceNeg, Int.reduceToNat, reduceCtorEq, reduceIte, rmr, hlt, w0, w4, ll, tk, iv_sc iv, hhm, gm, ml, fitj, d1, dz, gUn, List.nil_append, List.cons_append, List.append_nil, Int.toNat_natCast, Nat.mul_one]
        refine ih (h.bs.length - (j + 1)) _ _ _ (by omega) ⟨j + 1, by omega, rfl, ?_, ?_, ?_, rfl, rfl, rfl, rfl, rfl, rfl, rfl, rfl⟩
        · simp [hhl]
        · intro i hi; rw [List.getElem?_set_ne (by omega)]; exact hho i hi
        · rw [List.getElem?_set_self (by omega), ← mset true (by rw [hc, Bool.true_or])]; simp [splice]
    obtain rfl : j = h.bs.length := by omega
    rw [fnj_all] at hhm
    simp (disch := first | assumption | omega | (simp only [az]; done)) only [ru, eq_self, if_true, if_false, BEq.rfl, binI, AO.row?, splice, fillL, mmAll, loadV, storeV, zeros, Am.rowAt, Am.part, addOff, Nat.reduceAdd, Nat.reduceMul, Nat.reduceLeDiff, Nat.reduceSub, Nat.reduceLT, Int.reduceEq, Int.reduceLT, Int.reduceLE, Int.reduceGT, Int.reduceGE, Int.reduceAdd, Int.reduceSub, Int.reduceMul, Int.reduceNeg, Int.reduceToNat, reduceCtorEq, reduceIte, hlt]
    refine ⟨.busy, none, 81, TS, [17, 18], As81, Bd81, g3.length, by rw [hho _ (by omega)]; exact n4, ?_⟩
    refine ⟨⟨?_, ?_, ?_, ?_, ?_, ?_⟩, ⟨by simp [hhl, l6], fun i hi hl => ?_⟩⟩
    · rw [List.getElem?_set_ne (by omega), hho _ (by omega)]; exact n0
    · rw [List.getElem?_set_ne (by omega), hho _ (by omega)]; exact n1
    · rw [List.getElem?_set_ne (by omega)]; exact hhm
    · intro i hi; rw [List.getElem?_set_ne (by omega), hho _ (by omega)]; exact no i hi
    · rw [List.getElem?_set_ne (by omega), hho _ (by omega)]; exact n3
    · rw [List.getElem?_set_self (by omega), hTS]; rfl
    · rw [List.getElem?_set_ne (by omega), hho _ (by omega)]; exact old i hi hl
end
end Go.Proofs.Ytcdedbpmjhjehaa.S

/-
The program: Least, Pack, Fewest, Where, Early, Spare.
-/
namespace Go.Proofs.Ytcdedbpmjhjehaa.S
open Go Go.Am Go.Proofs.Ytcdedbpmjhjehaa.T
set_option maxRecDepth 100000
set_option linter.unusedSimpArgs false
set_option linter.unusedVariables false

section
variable {h : Hs} {k p b : AV}
theorem Lq.all {n : Nat} {g : List AO} {q : Nat} {F : List Int} (L : Lq n g q F) (hF : F.length = n) : g[q]? = some (.cells (F.flatMap intL) false) := by
  obtain ⟨C, h1, h2, h3⟩ := L
  rw [h1, ← h3, List.take_of_length_le (by omega)]
theorem flat_at {l : List Int} {i : Nat} (h : i < l.length) : ((l.flatMap intL).drop i).head? = some (I (l.getD i 0)) := by
  have e : l.flatMap intL = l.map fun n => I n := by
    clear h
    induction l with
    | nil => rfl
    | cons a l ih => rw [List.flatMap_cons, ih]; rfl
  rw [e, List.head?_drop, List.getElem?_map, List.getElem?_eq_getElem h, List.getD_eq_getElem?_getD, List.getElem?_eq_getElem h]; rfl
theorem q82 {x : List Int} {n : Nat} {Z : List AV} (hx : x.length = n) {q o : Nat} {g : List AO} (L : Lq n g q x) {t : Int} (h0 : 0 ≤ t) (ht : t < n) (hn : n ≤ 6) (ho : g[o]? = some (.cells [I t] false)) (c : Int) :
    Ro E 82 [.mr 1 q 0 x.length n, .agg Z, I c, .ptr o 0] g = some (Bo (decide (x.getD t.toNat 0 = c))) := by
  have ol := (List.getElem?_eq_some_iff.1 ho).1
  have hq := L.all hx
  have ql := (List.getElem?_eq_some_iff.1 hq).1
  have fa := flat_at (l := x) (i := t.toNat) (by omega)
  have t1 : t < (x.length : Int) := by omega
  obtain ⟨C, hC⟩ : ∃ C, C = x.flatMap intL := ⟨_, rfl⟩
  rw [← hC] at hq fa
  refine Ro_of (es _ _ _ _) e82 ?_
  simp only [f82]
  simp (disch := first | assumption | omega | (simp only [az]; done)) only [ru, eq_self, if_true, if_false, BEq.rfl, binI, AO.row?, splice, fillL, mmAll, loadV, storeV, zeros, Am.rowAt, Am.part, addOff, Nat.reduceAdd, Nat.reduceMul, Nat.reduceLeDiff, Nat.reduceSub, Nat.reduceLT, Int.reduceEq, Int.reduceLT, Int.reduceLE, Int.reduceGT, Int.reduceGE, Int.reduceAdd, Int.reduceSub, Int.reduceMul, Int.reduceNeg, Int.reduceToNat, reduceCtorEq, reduceIte, rmr, at_ap ol, at_ap ql, ho, hq, h0, t1, fa, Nat.mul_one, Nat.zero_add]
  rfl
theorem q85 (G : HG h) (x : List Int) {c : Nat} (hc : c < 4) (v : AV) (g : List AO) : Ro E 85 [v, .agg (lds h x), I c] g = some (Bo (decide ((prs h.ps x c).length = 0))) := by
  obtain ⟨Z, n, l, s, d, hZ, Zl, Zi, en, _, _, _, er⟩ := lds_rows G x
  have er := er c hc
  have en := en c
  rw [← hZ]
  have c0 : (0 : Int) ≤ c := by omega
  have c4 : (c : Int) < 4 := by omega
  have ed : decide ((prs h.ps x c).length = 0) = decide (n c = 0) := by rw [decide_eq_decide, en]; omega
  have hd : (Z.drop (c * 4)).head? = some (I (n c)) := by
    cases hz : Z.drop (c * 4) with
    | nil => rw [hz] at er; cases er
    | cons a r => rw [hz] at er; injection er with e1 _; rw [e1]; rfl
  rw [ed]
  refine Ro_of (es _ _ _ _) e85 ?_
  simp only [f85]
  simp (disch := first | assumption | omega | (simp only [az]; done)) only [ru, eq_self, if_true, if_false, BEq.rfl, binI, AO.row?, splice, fillL, mmAll, loadV, storeV, zeros, Am.rowAt, Am.part, addOff, Nat.reduceAdd, Nat.reduceMul, Nat.reduceLeDiff, Nat.reduceSub, Nat.reduceLT, Int.reduceEq, Int.reduceLT, Int.reduceLE, Int.reduceGT, Int.reduceGE, Int.reduceAdd, Int.reduceSub, Int.reduceMul, Int.reduceNeg, Int.reduceToNat, reduceCtorEq, reduceIte, rmr, c0, c4, hd, atE, Int.toNat_natCast]
  rfl
theorem s76a (H : HsOk h k p b) (G : HG h) (st : Bool) : Iso E 76 [.agg [k, I h.fl, p, b], .fn 77 [] []] st = some (.tup [if h.pk = [] then .nils else slV 1 intL ((bsf h.sa h.pk).getD []), I (if h.pk = [] then 0 else lsf h.sa h.pk), I (if h.pk = [] then 3 else 0)]) :=
  s76 H G (fun x _ => by have := sa_bd G x; omega) (fun x P g => by rw [q77 H G x g, sa4 G P]) st
theorem s76u (H : HsOk h k p b) (G : HG h) (st : Bool) : Iso E 76 [.agg [k, I h.fl, p, b], .fn 79 [] []] st = some (.tup [if h.pk = [] then .nils else slV 1 intL ((bsf h.us h.pk).getD []), I (if h.pk = [] then 0 else lsf h.us h.pk), I (if h.pk = [] then 3 else 0)]) :=
  s76 H G (fun x _ => by have := us_bd (h := h) x; have := G.nb; omega) (fun x P g => by rw [q79 H G x g, us4 G P]) st
theorem s30 (H : HsOk h k p b) (st : Bool) : Iso E 30 [hsV h.fl k p b] st = some (ansN (askE h.valid true h.pk) (lsf h.sa h.pk)) := by
  have a1 := fun st => s19 H st
  simp only [hsV] at a1
  refine Iso_of (es _ _ _ _) e30 ?_
  simp only [f30, hsV, ansN, askE]
  cases hv : h.valid
  · simp (disch := first | assumption | omega | (simp only [az]; done)) only [ru, eq_self, if_true, if_false, BEq.rfl, binI, AO.row?, splice, fillL, mmAll, loadV, storeV, zeros, Am.rowAt, Am.part, addOff, Nat.reduceAdd, Nat.reduceMul, Nat.reduceLeDiff, Nat.reduceSub, Nat.reduceLT, Int.reduceEq, Int.reduceLT, Int.reduceLE, Int.reduceGT, Int.reduceGE, Int.reduceAdd, Int.reduceSub, Int.reduceMul, Int.reduceNeg, Int.reduceToNat, reduceCtorEq, reduceIte, lenV_sl H.k, lenV_sl H.p, lenV_sl H.b, elem_kd H.k, elem_pr H.p, elem_in H.b, view_sl H.k, view_sl H.p, view_sl H.b, scalar_sl H.k, scalar_sl H.p, scalar_sl H.b, cells_sl H.k, cells_sl H.p, cells_sl H.b, pure_sl H.k, pure_sl H.p, pure_sl H.b, Int.toNat_natCast, a1, hv, vE, if_false, Bool.false_eq_true]
  have G : HG h := valid_iff.1 hv
  have a2 := fun st => s76a H G st
  by_cases hpk : h.pk = []
  · simp only [hpk, if_true] at a2
    simp (disch := first | assumption | omega | (simp only [az]; done)) only [ru, eq_self, if_true, if_false, BEq.rfl, binI, AO.row?, splice, fillL, mmAll, loadV, storeV, zeros, Am.rowAt, Am.part, addOff, Nat.reduceAdd, Nat.reduceMul, Nat.reduceLeDiff, Nat.reduceSub, Nat.reduceLT, Int.reduceEq, Int.reduceLT, Int.reduceLE, Int.reduceGT, Int.reduceGE, Int.reduceAdd, Int.reduceSub, Int.reduceMul, Int.reduceNeg, Int.reduceToNat, reduceCtorEq, reduceIte, lenV_sl H.k, lenV_sl H.p, lenV_sl H.b, elem_kd H.k, elem_pr H.p, elem_in H.b, view_sl H.k, view_sl H.p, view_sl H.b, scalar_sl H.k, scalar_sl H.p, scalar_sl H.b, cells_sl H.k, cells_sl H.p, cells_sl H.b, pure_sl H.k, pure_sl H.p, pure_sl H.b, Int.toNat_natCast, a1, a2, hv, hpk, vE, if_true]
  · simp only [hpk, if_false] at a2
    simp (disch := first | assumption | omega | (simp only [az]; done)) only [ru, eq_self, if_true, if_false, BEq.rfl, binI, AO.row?, splice, fillL, mmAll, loadV, storeV, zeros, Am.rowAt, Am.part, addOff, Nat.reduceAdd, Nat.reduceMul, Nat.reduceLeDiff, Nat.reduceSub, Nat.reduceLT, Int.reduceEq, Int.reduceLT, Int.reduceLE, Int.reduceGT, Int.reduceGE, Int.reduceAdd, Int.reduceSub, Int.reduceMul, Int.reduceNeg, Int.reduceToNat, reduceCtorEq, reduceIte, lenV_sl H.k, lenV_sl H.p, lenV_sl H.b, elem_kd H.k, elem_pr H.p, elem_in H.b, view_sl H.k, view_sl H.p, view_sl H.b, scalar_sl H.k, scalar_sl H.p, scalar_sl H.b, cells_sl H.k, cells_sl H.p, cells_sl H.b, pure_sl H.k, pure_sl H.p, pure_sl H.b, Int.toNat_natCast, a1, a2, hv, hpk, vE, if_true, if_false]
theorem s32 (H : HsOk h k p b) : Iso E 32 [hsV h.fl k p b] false = some (.tup [if askE h.valid true h.pk = 0 then slV 1 intL ((bsf h.sa h.pk).getD []) else .nils, I (askE h.valid true h.pk)]) := by
  have a1 := fun st => s19 H st
  simp only [hsV] at a1
  refine Iso_of (es _ _ _ _) e32 ?_
  simp only [f32, hsV, ansN, askE]
  cases hv : h.valid
  · simp (disch := first | assumption | omega | (simp only [az]; done)) only [ru, eq_self, if_true, if_false, BEq.rfl, binI, AO.row?, splice, fillL, mmAll, loadV, storeV, zeros, Am.rowAt, Am.part, addOff, Nat.reduceAdd, Nat.reduceMul, Nat.reduceLeDiff, Nat.reduceSub, Nat.reduceLT, Int.reduceEq, Int.reduceLT, Int.reduceLE, Int.reduceGT, Int.reduceGE, Int.reduceAdd, Int.reduceSub, Int.reduceMul, Int.reduceNeg, Int.reduceToNat, reduceCtorEq, reduceIte, lenV_sl H.k, lenV_sl H.p, lenV_sl H.b, elem_kd H.k, elem_pr H.p, elem_in H.b, view_sl H.k, view_sl H.p, view_sl H.b, scalar_sl H.k, scalar_sl H.p, scalar_sl H.b, cells_sl H.k, cells_sl H.p, cells_sl H.b, pure_sl H.k, pure_sl H.p, pure_sl H.b, Int.toNat_natCast, a1, hv, vE, if_false, Bool.false_eq_true]
  have G : HG h := valid_iff.1 hv
  have a2 := fun st => s76a H G st
  by_cases hpk : h.pk = []
  · simp only [hpk, if_true] at a2
    simp (disch := first | assumption | omega | (simp only [az]; done)) only [ru, eq_self, if_true, if_false, BEq.rfl, binI, AO.row?, splice, fillL, mmAll, loadV, storeV, zeros, Am.rowAt, Am.part, addOff, Nat.reduceAdd, Nat.reduceMul, Nat.reduceLeDiff, Nat.reduceSub, Nat.reduceLT, Int.reduceEq, Int.reduceLT, Int.reduceLE, Int.reduceGT, Int.reduceGE, Int.reduceAdd, Int.reduceSub, Int.reduceMul, Int.reduceNeg, Int.reduceToNat, reduceCtorEq, reduceIte, lenV_sl H.k, lenV_sl H.p, lenV_sl H.b, elem_kd H.k, elem_pr H.p, elem_in H.b, view_sl H.k, view_sl H.p, view_sl H.b, scalar_sl H.k, scalar_sl H.p, scalar_sl H.b, cells_sl H.k, cells_sl H.p, cells_sl H.b, pure_sl H.k, pure_sl H.p, pure_sl H.b, Int.toNat_natCast, a1, a2, hv, hpk, vE, if_true]
  · simp only [hpk, if_false, slV] at a2
    simp (disch := first | assumption | omega | (simp only [az]; done)) only [ru, eq_self, if_true, if_false, BEq.rfl, binI, AO.row?, splice, fillL, mmAll, loadV, storeV, zeros, Am.rowAt, Am.part, addOff, Nat.reduceAdd, Nat.reduceMul, Nat.reduceLeDiff, Nat.reduceSub, Nat.reduceLT, Int.reduceEq, Int.reduceLT, Int.reduceLE, Int.reduceGT, Int.reduceGE, Int.reduceAdd, Int.reduceSub, Int.reduceMul, Int.reduceNeg, Int.reduceToNat, reduceCtorEq, reduceIte, lenV_sl H.k, lenV_sl H.p, lenV_sl H.b, elem_kd H.k, elem_pr H.p, elem_in H.b, view_sl H.k, view_sl H.p, view_sl H.b, scalar_sl H.k, scalar_sl H.p, scalar_sl H.b, cells_sl H.k, cells_sl H.p, cells_sl H.b, pure_sl H.k, pure_sl H.p, pure_sl H.b, Int.toNat_natCast, a1, a2, hv, hpk, vE, slV, if_true, if_false]
theorem s34 (H : HsOk h k p b) (st : Bool) : Iso E 34 [hsV h.fl k p b] st = some (ansN (askE h.valid true h.pk) (lsf h.us h.pk)) := by
  have a1 := fun st => s19 H st
  simp only [hsV] at a1
  refine Iso_of (es _ _ _ _) e34 ?_
  simp only [f34, hsV, ansN, askE]
  cases hv : h.valid
  · simp (disch := first | assumption | omega | (simp only [az]; done)) only [ru, eq_self, if_true, if_false, BEq.rfl, binI, AO.row?, splice, fillL, mmAll, loadV, storeV, zeros, Am.rowAt, Am.part, addOff, Nat.reduceAdd, Nat.reduceMul, Nat.reduceLeDiff, Nat.reduceSub, Nat.reduceLT, Int.reduceEq, Int.reduceLT, Int.reduceLE, Int.reduceGT, Int.reduceGE, Int.reduceAdd, Int.reduceSub, Int.reduceMul, Int.reduceNeg, Int.reduceToNat, reduceCtorEq, reduceIte, lenV_sl H.k, lenV_sl H.p, lenV_sl H.b, elem_kd H.k, elem_pr H.p, elem_in H.b, view_sl H.k, view_sl H.p, view_sl H.b, scalar_sl H.k, scalar_sl H.p, scalar_sl H.b, cells_sl H.k, cells_sl H.p, cells_sl H.b, pure_sl H.k, pure_sl H.p, pure_sl H.b, Int.toNat_natCast, a1, hv, vE, if_false, Bool.false_eq_true]
  have G : HG h := valid_iff.1 hv
  have a2 := fun st => s76u H G st
  by_cases hpk : h.pk = []
  · simp only [hpk, if_true] at a2
    simp (disch := first | assumption | omega | (simp only [az]; done)) only [ru, eq_self, if_true, if_false, BEq.rfl, binI, AO.row?, splice, fillL, mmAll, loadV, storeV, zeros, Am.rowAt, Am.part, addOff, Nat.reduceAdd, Nat.reduceMul, Nat.reduceLeDiff, Nat.reduceSub, Nat.reduceLT, Int.reduceEq, Int.reduceLT, Int.reduceLE, Int.reduceGT, Int.reduceGE, Int.reduceAdd, Int.reduceSub, Int.reduceMul, Int.reduceNeg, Int.reduceToNat, reduceCtorEq, reduceIte, lenV_sl H.k, lenV_sl H.p, lenV_sl H.b, elem_kd H.k, elem_pr H.p, elem_in H.b, view_sl H.k, view_sl H.p, view_sl H.b, scalar_sl H.k, scalar_sl H.p, scalar_sl H.b, cells_sl H.k, cells_sl H.p, cells_sl H.b, pure_sl H.k, pure_sl H.p, pure_sl H.b, Int.toNat_natCast, a1, a2, hv, hpk, vE, if_true]
  · simp only [hpk, if_false] at a2
    simp (disch := first | assumption | omega | (simp only [az]; done)) only [ru, eq_self, if_true, if_false, BEq.rfl, binI, AO.row?, splice, fillL, mmAll, loadV, storeV, zeros, Am.rowAt, Am.part, addOff, Nat.reduceAdd, Nat.reduceMul, Nat.reduceLeDiff, Nat.reduceSub, Nat.reduceLT, Int.reduceEq, Int.reduceLT, Int.reduceLE, Int.reduceGT, Int.reduceGE, Int.reduceAdd, Int.reduceSub, Int.reduceMul, Int.reduceNeg, Int.reduceToNat, reduceCtorEq, reduceIte, lenV_sl H.k, lenV_sl H.p, lenV_sl H.b, elem_kd H.k, elem_pr H.p, elem_in H.b, view_sl H.k, view_sl H.p, view_sl H.b, scalar_sl H.k, scalar_sl H.p, scalar_sl H.b, cells_sl H.k, cells_sl H.p, cells_sl H.b, pure_sl H.k, pure_sl H.p, pure_sl H.b, Int.toNat_natCast, a1, a2, hv, hpk, vE, if_true, if_false]
theorem s38 (H : HsOk h k p b) (D : Int) (st : Bool) : Iso E 38 [hsV h.fl k p b, I D] st = some (ansN (askE h.valid (inR D 0 20) h.pk) (mst (h.ea D) h.pk)) := by
  have a1 := fun st => s19 H st
  simp only [hsV] at a1
  refine Iso_of (es _ _ _ _) e38 ?_
  simp only [f38, hsV, ansN, askE]
  cases hv : h.valid
  · simp (disch := first | assumption | omega | (simp only [az]; done)) only [ru, eq_self, if_true, if_false, BEq.rfl, binI, AO.row?, splice, fillL, mmAll, loadV, storeV, zeros, Am.rowAt, Am.part, addOff, Nat.reduceAdd, Nat.reduceMul, Nat.reduceLeDiff, Nat.reduceSub, Nat.reduceLT, Int.reduceEq, Int.reduceLT, Int.reduceLE, Int.reduceGT, Int.reduceGE, Int.reduceAdd, Int.reduceSub, Int.reduceMul, Int.reduceNeg, Int.reduceToNat, reduceCtorEq, reduceIte, lenV_sl H.k, lenV_sl H.p, lenV_sl H.b, elem_kd H.k, elem_pr H.p, elem_in H.b, view_sl H.k, view_sl H.p, view_sl H.b, scalar_sl H.k, scalar_sl H.p, scalar_sl H.b, cells_sl H.k, cells_sl H.p, cells_sl H.b, pure_sl H.k, pure_sl H.p, pure_sl H.b, Int.toNat_natCast, a1, hv, vE, if_false, Bool.false_eq_true]
  have G : HG h := valid_iff.1 hv
  cases hD : inR D 0 20
  · simp (disch := first | assumption | omega | (simp only [az]; done)) only [ru, eq_self, if_true, if_false, BEq.rfl, binI, AO.row?, splice, fillL, mmAll, loadV, storeV, zeros, Am.rowAt, Am.part, addOff, Nat.reduceAdd, Nat.reduceMul, Nat.reduceLeDiff, Nat.reduceSub, Nat.reduceLT, Int.reduceEq, Int.reduceLT, Int.reduceLE, Int.reduceGT, Int.reduceGE, Int.reduceAdd, Int.reduceSub, Int.reduceMul, Int.reduceNeg, Int.reduceToNat, reduceCtorEq, reduceIte, lenV_sl H.k, lenV_sl H.p, lenV_sl H.b, elem_kd H.k, elem_pr H.p, elem_in H.b, view_sl H.k, view_sl H.p, view_sl H.b, scalar_sl H.k, scalar_sl H.p, scalar_sl H.b, cells_sl H.k, cells_sl H.p, cells_sl H.b, pure_sl H.k, pure_sl H.p, pure_sl H.b, Int.toNat_natCast, a1, s83, hD, hv, vE, if_true, if_false, Bool.false_eq_true, Bool.not_false]
  have a2 := fun st => s84 H G (inR_iff.1 hD).1 st
  simp only [hsV] at a2
  by_cases hpk : h.pk = []
  · have em : mst (h.ea D) h.pk = 0 := by rw [hpk]; rfl
    rw [em] at a2
    simp only [hpk, if_true] at a2
    simp (disch := first | assumption | omega | (simp only [az]; done)) only [ru, eq_self, if_true, if_false, BEq.rfl, binI, AO.row?, splice, fillL, mmAll, loadV, storeV, zeros, Am.rowAt, Am.part, addOff, Nat.reduceAdd, Nat.reduceMul, Nat.reduceLeDiff, Nat.reduceSub, Nat.reduceLT, Int.reduceEq, Int.reduceLT, Int.reduceLE, Int.reduceGT, Int.reduceGE, Int.reduceAdd, Int.reduceSub, Int.reduceMul, Int.reduceNeg, Int.reduceToNat, reduceCtorEq, reduceIte, lenV_sl H.k, lenV_sl H.p, lenV_sl H.b, elem_kd H.k, elem_pr H.p, elem_in H.b, view_sl H.k, view_sl H.p, view_sl H.b, scalar_sl H.k, scalar_sl H.p, scalar_sl H.b, cells_sl H.k, cells_sl H.p, cells_sl H.b, pure_sl H.k, pure_sl H.p, pure_sl H.b, Int.toNat_natCast, a1, a2, s83, hD, hv, hpk, em, vE, if_true, Bool.not_true]
  · simp only [hpk, if_false] at a2
    simp (disch := first | assumption | omega | (simp only [az]; done)) only [ru, eq_self, if_true, if_false, BEq.rfl, binI, AO.row?, splice, fillL, mmAll, loadV, storeV, zeros, Am.rowAt, Am.part, addOff, Nat.reduceAdd, Nat.reduceMul, Nat.reduceLeDiff, Nat.reduceSub, Nat.reduceLT, Int.reduceEq, Int.reduceLT, Int.reduceLE, Int.reduceGT, Int.reduceGE, Int.reduceAdd, Int.reduceSub, Int.reduceMul, Int.reduceNeg, Int.reduceToNat, reduceCtorEq, reduceIte, lenV_sl H.k, lenV_sl H.p, lenV_sl H.b, elem_kd H.k, elem_pr H.p, elem_in H.b, view_sl H.k, view_sl H.p, view_sl H.b, scalar_sl H.k, scalar_sl H.p, scalar_sl H.b, cells_sl H.k, cells_sl H.p, cells_sl H.b, pure_sl H.k, pure_sl H.p, pure_sl H.b, Int.toNat_natCast, a1, a2, s83, hD, hv, hpk, vE, if_true, if_false, Bool.not_true]
theorem s36 (H : HsOk h k p b) (t : Int) (st : Bool) : Iso E 36 [hsV h.fl k p b, I t] st = some (ansL (askE h.valid (inR t 0 (h.ps.length - 1)) h.pk) (h.whr t.toNat)) := by
  have a1 := fun st => s19 H st
  have a3 := fun st => s80 H t st
  simp only [hsV] at a1 a3
  refine Iso_of (es _ _ _ _) e36 ?_
  simp only [f36, hsV, ansL, askE]
  cases hv : h.valid
  · simp (disch := first | assumption | omega | (simp only [az]; done)) only [ru, eq_self, if_true, if_false, BEq.rfl, binI, AO.row?, splice, fillL, mmAll, loadV, storeV, zeros, Am.rowAt, Am.part, addOff, Nat.reduceAdd, Nat.reduceMul, Nat.reduceLeDiff, Nat.reduceSub, Nat.reduceLT, Int.reduceEq, Int.reduceLT, Int.reduceLE, Int.reduceGT, Int.reduceGE, Int.reduceAdd, Int.reduceSub, Int.reduceMul, Int.reduceNeg, Int.reduceToNat, reduceCtorEq, reduceIte, lenV_sl H.k, lenV_sl H.p, lenV_sl H.b, elem_kd H.k, elem_pr H.p, elem_in H.b, view_sl H.k, view_sl H.p, view_sl H.b, scalar_sl H.k, scalar_sl H.p, scalar_sl H.b, cells_sl H.k, cells_sl H.p, cells_sl H.b, pure_sl H.k, pure_sl H.p, pure_sl H.b, Int.toNat_natCast, a1, hv, vE, if_false, Bool.false_eq_true]
  have G : HG h := valid_iff.1 hv
  have np := G.np; have nb := G.nb
  cases hD : inR t 0 (h.ps.length - 1)
  · simp (disch := first | assumption | omega | (simp only [az]; done)) only [ru, eq_self, if_true, if_false, BEq.rfl, binI, AO.row?, splice, fillL, mmAll, loadV, storeV, zeros, Am.rowAt, Am.part, addOff, Nat.reduceAdd, Nat.reduceMul, Nat.reduceLeDiff, Nat.reduceSub, Nat.reduceLT, Int.reduceEq, Int.reduceLT, Int.reduceLE, Int.reduceGT, Int.reduceGE, Int.reduceAdd, Int.reduceSub, Int.reduceMul, Int.reduceNeg, Int.reduceToNat, reduceCtorEq, reduceIte, lenV_sl H.k, lenV_sl H.p, lenV_sl H.b, elem_kd H.k, elem_pr H.p, elem_in H.b, view_sl H.k, view_sl H.p, view_sl H.b, scalar_sl H.k, scalar_sl H.p, scalar_sl H.b, cells_sl H.k, cells_sl H.p, cells_sl H.b, pure_sl H.k, pure_sl H.p, pure_sl H.b, Int.toNat_natCast, a1, a3, hD, hv, vE, if_true, if_false, Bool.false_eq_true, Bool.not_false]
  have ht := inR_iff.1 hD
  obtain ⟨v, g', hr, hvw⟩ := r81 H G (K := 82) (cap := [.ptr 1 0]) (w := fun x c => decide (x.getD t.toNat 0 = (c : Int))) (g0 := [.cells [k, I h.fl, p, b] false, .cells [I t] false]) (C := fun g => g[1]? = some (.cells [I t] false))
    (fun g hg => by rw [hg 1 (by simp)]; rfl) (fun x P q g hC L c hc => q82 P.l L ht.1 (by omega) np hC c)
  have ew : idx (fun c => h.pk.any fun x => decide (x.getD t.toNat 0 = (c : Int))) h.bs.length = h.whr t.toNat := rfl
  rw [ew] at hvw
  simp only [hsV] at hr
  by_cases hpk : h.pk = []
  · simp only [hpk, if_true] at hr
    have e0 : h.whr t.toNat = [] := by simp [Hs.whr, hpk, idx]
    have vn := fun st n => hvw st n
    simp only [e0, show resL [] = .nils from rfl] at vn
    simp (disch := first | assumption | omega | (simp only [az]; done)) only [ru, eq_self, if_true, if_false, BEq.rfl, binI, AO.row?, splice, fillL, mmAll, loadV, storeV, zeros, Am.rowAt, Am.part, addOff, Nat.reduceAdd, Nat.reduceMul, Nat.reduceLeDiff, Nat.reduceSub, Nat.reduceLT, Int.reduceEq, Int.reduceLT, Int.reduceLE, Int.reduceGT, Int.reduceGE, Int.reduceAdd, Int.reduceSub, Int.reduceMul, Int.reduceNeg, Int.reduceToNat, reduceCtorEq, reduceIte, lenV_sl H.k, lenV_sl H.p, lenV_sl H.b, elem_kd H.k, elem_pr H.p, elem_in H.b, view_sl H.k, view_sl H.p, view_sl H.b, scalar_sl H.k, scalar_sl H.p, scalar_sl H.b, cells_sl H.k, cells_sl H.p, cells_sl H.b, pure_sl H.k, pure_sl H.p, pure_sl H.b, Int.toNat_natCast, a1, a3, hD, hv, hpk, hr, exOp_call0, vn, e0, vE, if_true, if_false, Bool.not_true]
  · simp only [hpk, if_false] at hr
    simp (disch := first | assumption | omega | (simp only [az]; done)) only [ru, eq_self, if_true, if_false, BEq.rfl, binI, AO.row?, splice, fillL, mmAll, loadV, storeV, zeros, Am.rowAt, Am.part, addOff, Nat.reduceAdd, Nat.reduceMul, Nat.reduceLeDiff, Nat.reduceSub, Nat.reduceLT, Int.reduceEq, Int.reduceLT, Int.reduceLE, Int.reduceGT, Int.reduceGE, Int.reduceAdd, Int.reduceSub, Int.reduceMul, Int.reduceNeg, Int.reduceToNat, reduceCtorEq, reduceIte, lenV_sl H.k, lenV_sl H.p, lenV_sl H.b, elem_kd H.k, elem_pr H.p, elem_in H.b, view_sl H.k, view_sl H.p, view_sl H.b, scalar_sl H.k, scalar_sl H.p, scalar_sl H.b, cells_sl H.k, cells_sl H.p, cells_sl H.b, pure_sl H.k, pure_sl H.p, pure_sl H.b, Int.toNat_natCast, a1, a3, hD, hv, hpk, hr, exOp_call0, hvw, vE, if_true, if_false, Bool.not_true]
theorem s40 (H : HsOk h k p b) (st : Bool) : Iso E 40 [hsV h.fl k p b] st = some (ansL (askE h.valid true h.pk) h.spr) := by
  have a1 := fun st => s19 H st
  simp only [hsV] at a1
  refine Iso_of (es _ _ _ _) e40 ?_
  simp only [f40, hsV, ansL, askE]
  cases hv : h.valid
  · simp (disch := first | assumption | omega | (simp only [az]; done)) only [ru, eq_self, if_true, if_false, BEq.rfl, binI, AO.row?, splice, fillL, mmAll, loadV, storeV, zeros, Am.rowAt, Am.part, addOff, Nat.reduceAdd, Nat.reduceMul, Nat.reduceLeDiff, Nat.reduceSub, Nat.reduceLT, Int.reduceEq, Int.reduceLT, Int.reduceLE, Int.reduceGT, Int.reduceGE, Int.reduceAdd, Int.reduceSub, Int.reduceMul, Int.reduceNeg, Int.reduceToNat, reduceCtorEq, reduceIte, lenV_sl H.k, lenV_sl H.p, lenV_sl H.b, elem_kd H.k, elem_pr H.p, elem_in H.b, view_sl H.k, view_sl H.p, view_sl H.b, scalar_sl H.k, scalar_sl H.p, scalar_sl H.b, cells_sl H.k, cells_sl H.p, cells_sl H.b, pure_sl H.k, pure_sl H.p, pure_sl H.b, Int.toNat_natCast, a1, hv, vE, if_false, Bool.false_eq_true]
  have G : HG h := valid_iff.1 hv
  have np := G.np; have nb := G.nb
  obtain ⟨v, g', hr, hvw⟩ := r81 H G (K := 85) (cap := []) (w := fun x c => decide ((prs h.ps x c).length = 0)) (g0 := [.cells [k, I h.fl, p, b] false]) (C := fun g => True)
    (fun g hg => trivial) (fun x P q g hC L c hc => q85 G x (by omega) _ g)
  have ew : idx (fun c => h.pk.any fun x => decide ((prs h.ps x c).length = 0)) h.bs.length = h.spr := rfl
  rw [ew] at hvw
  simp only [hsV] at hr
  by_cases hpk : h.pk = []
  · simp only [hpk, if_true] at hr
    have e0 : h.spr = [] := by simp [Hs.spr, hpk, idx]
    have vn := fun st n => hvw st n
    simp only [e0, show resL [] = .nils from rfl] at vn
    simp (disch := first | assumption | omega | (simp only [az]; done)) only [ru, eq_self, if_true, if_false, BEq.rfl, binI, AO.row?, splice, fillL, mmAll, loadV, storeV, zeros, Am.rowAt, Am.part, addOff, Nat.reduceAdd, Nat.reduceMul, Nat.reduceLeDiff, Nat.reduceSub, Nat.reduceLT, Int.reduceEq, Int.reduceLT, Int.reduceLE, Int.reduceGT, Int.reduceGE, Int.reduceAdd, Int.reduceSub, Int.reduceMul, Int.reduceNeg, Int.reduceToNat, reduceCtorEq, reduceIte, lenV_sl H.k, lenV_sl H.p, lenV_sl H.b, elem_kd H.k, elem_pr H.p, elem_in H.b, view_sl H.k, view_sl H.p, view_sl H.b, scalar_sl H.k, scalar_sl H.p, scalar_sl H.b, cells_sl H.k, cells_sl H.p, cells_sl H.b, pure_sl H.k, pure_sl H.p, pure_sl H.b, Int.toNat_natCast, a1, hv, hpk, hr, exOp_call0, vn, e0, vE, if_true, if_false]
  · simp only [hpk, if_false] at hr
    simp (disch := first | assumption | omega | (simp only [az]; done)) only [ru, eq_self, if_true, if_false, BEq.rfl, binI, AO.row?, splice, fillL, mmAll, loadV, storeV, zeros, Am.rowAt, Am.part, addOff, Nat.reduceAdd, Nat.reduceMul, Nat.reduceLeDiff, Nat.reduceSub, Nat.reduceLT, Int.reduceEq, Int.reduceLT, Int.reduceLE, Int.reduceGT, Int.reduceGE, Int.reduceAdd, Int.reduceSub, Int.reduceMul, Int.reduceNeg, Int.reduceToNat, reduceCtorEq, reduceIte, lenV_sl H.k, lenV_sl H.p, lenV_sl H.b, elem_kd H.k, elem_pr H.p, elem_in H.b, view_sl H.k, view_sl H.p, view_sl H.b, scalar_sl H.k, scalar_sl H.p, scalar_sl H.b, cells_sl H.k, cells_sl H.p, cells_sl H.b, pure_sl H.k, pure_sl H.p, pure_sl H.b, Int.toNat_natCast, a1, hv, hpk, hr, exOp_call0, hvw, vE, if_true, if_false]
end
end Go.Proofs.Ytcdedbpmjhjehaa.S

/-
Choices of parts: by masks, and by lists in which parts are left out.
-/
namespace Go.Proofs.Ytcdedbpmjhjehaa.S
open Go Go.Am Go.Proofs.Ytcdedbpmjhjehaa.T
set_option maxRecDepth 100000
set_option linter.unusedSimpArgs false
set_option linter.unusedVariables false

/-- what a mask chooses -/
def selR : List Pr → Nat → List Pr
  | [], _ => []
  | q :: l, m => if m % 2 = 1 then q :: selR l (m / 2) else selR l (m / 2)
def selI (ps : List Pr) (m i : Nat) : List Pr := ((List.range i).filter fun j => decide (m / 2 ^ j % 2 = 1)).map fun j => ps.getD j default
theorem selI_succ {ps : List Pr} {m i : Nat} : selI ps m (i + 1) = selI ps m i ++ (if m / 2 ^ i % 2 = 1 then [ps.getD i default] else []) := by
  unfold selI
  rw [List.range_succ, List.filter_append, List.map_append]
  congr 1
  by_cases h : m / 2 ^ i % 2 = 1
  · simp [h]
  · simp [h]
theorem selI_all : ∀ {ps : List Pr} {m : Nat}, selI ps m ps.length = selR ps m
  | [], m => rfl
  | q :: l, m => by
    have ih := selI_all (ps := l) (m := m / 2)
    unfold selI at ih ⊢
    rw [List.length_cons, List.range_succ_eq_map, List.filter_cons, List.filter_map]
    have e1 : ∀ j, m / 2 ^ (j + 1) = m / 2 / 2 ^ j := fun j => by rw [Nat.pow_succ, Nat.mul_comm, Nat.div_div_eq_div_mul]
    have e2 : ((fun j => decide (m / 2 ^ j % 2 = 1)) ∘ Nat.succ) = fun j => decide (m / 2 / 2 ^ j % 2 = 1) := by
      funext j; simp only [Function.comp, Nat.succ_eq_add_one, e1]
    have e3 : ∀ L : List Nat, (L.map Nat.succ).map (fun j => (q :: l).getD j default) = L.map fun j => l.getD j default := fun L => by
      rw [List.map_map]; rfl
    rw [e2]
    unfold selR
    by_cases h : m % 2 = 1
    · simp only [Nat.pow_zero, Nat.div_one, h, decide_true, if_true, List.map_cons, e3, ih]; rfl
    · simp only [Nat.pow_zero, Nat.div_one, h, decide_false, if_false, e3, ih, Bool.false_eq_true]
theorem selR_sub : ∀ {ps : List Pr} {m : Nat}, (selR ps m).Sublist ps
  | [], m => List.Sublist.refl _
  | q :: l, m => by
    unfold selR; split
    · exact List.Sublist.cons_cons q selR_sub
    · exact List.Sublist.cons q selR_sub
/-- the parts that are not left out, and where they are -/
def kpP (ps : List Pr) (x : List Int) : List Pr := ((ps.zip x).filter fun q => decide (q.2 ≠ -1)).map (·.1)
def kpX (x : List Int) : List Int := x.filter fun c => decide (c ≠ -1)
theorem kp_zip : ∀ {ps : List Pr} {x : List Int}, ps.length = x.length → (kpP ps x).zip (kpX x) = (ps.zip x).filter fun q => decide (q.2 ≠ -1)
  | [], [], _ => rfl
  | [], a :: x, h => by simp at h
  | q :: ps, [], h => by simp at h
  | q :: ps, a :: x, h => by
    have ih := kp_zip (ps := ps) (x := x) (by simpa using h)
    unfold kpP kpX at ih ⊢
    by_cases e : a = -1
    · simp [e] at ih ⊢; exact ih
    · simp [e] at ih ⊢; exact ih
theorem kp_len {ps : List Pr} {x : List Int} (h : ps.length = x.length) : (kpX x).length = (kpP ps x).length := by
  induction ps generalizing x with
  | nil =>
    cases x with
    | nil => rfl
    | cons a x => simp at h
  | cons q ps ih =>
    cases x with
    | nil => simp at h
    | cons a x =>
      have := ih (x := x) (by simpa using h)
      unfold kpP kpX at this ⊢
      by_cases e : a = -1
      · simp [e] at this ⊢; exact this
      · simp [e] at this ⊢; exact this
theorem kp_prs {ps : List Pr} {x : List Int} (h : ps.length = x.length) {c : Int} (hc : c ≠ -1) : prs (kpP ps x) (kpX x) c = prs ps x c := by
  unfold prs
  rw [kp_zip h, List.filter_filter]
  congr 2
  funext q
  by_cases e : q.2 = c
  · rw [e]; simp [hc]
  · simp [e]
theorem sel_of : ∀ {ps : List Pr} {x : List Int}, ps.length = x.length → ∃ m, m < 2 ^ ps.length ∧ selR ps m = kpP ps x
  | [], [], _ => ⟨0, by simp, rfl⟩
  | [], a :: x, h => by simp at h
  | q :: ps, [], h => by simp at h
  | q :: ps, a :: x, h => by
    obtain ⟨m, hm, e⟩ := sel_of (ps := ps) (x := x) (by simpa using h)
    rw [List.length_cons, Nat.pow_succ]
    by_cases ha : a = -1
    · refine ⟨2 * m, by omega, ?_⟩
      unfold selR
      rw [if_neg (by omega), show 2 * m / 2 = m by omega, e]
      unfold kpP; simp [ha]
    · refine ⟨2 * m + 1, by omega, ?_⟩
      unfold selR
      rw [if_pos (by omega), show (2 * m + 1) / 2 = m by omega, e]
      unfold kpP; simp [ha]
theorem of_sel : ∀ {ps : List Pr} {m : Nat} {y : List Int}, y.length = (selR ps m).length → (∀ c ∈ y, c ≠ -1) → ∃ x, x.length = ps.length ∧ kpP ps x = selR ps m ∧ kpX x = y ∧ ∀ c ∈ x, c ∈ y ∨ c = -1
  | [], m, y, hl, _ => ⟨[], rfl, rfl, (List.eq_nil_of_length_eq_zero (by simpa [selR] using hl)).symm, by simp⟩
  | q :: ps, m, y, hl, hy => by
    unfold selR at hl ⊢
    by_cases h : m % 2 = 1
    · rw [if_pos h] at hl ⊢
      cases y with
      | nil => simp at hl
      | cons c y =>
        have hc := hy c (by simp)
        obtain ⟨x, h1, h2, h3, h4⟩ := of_sel (ps := ps) (m := m / 2) (y := y) (by simpa using hl) fun d hd => hy d (by simp [hd])
        refine ⟨c :: x, by simp [h1], ?_, ?_, ?_⟩
        · unfold kpP at h2 ⊢; simp [hc]; simpa using h2
        · unfold kpX at h3 ⊢; simp [hc]; simpa using h3
        · intro d hd
          rcases List.mem_cons.1 hd with rfl | hd
          · exact .inl (by simp)
          · rcases h4 d hd with h | h
            · exact .inl (by simp [h])
            · exact .inr h
    · rw [if_neg h] at hl ⊢
      obtain ⟨x, h1, h2, h3, h4⟩ := of_sel (ps := ps) (m := m / 2) (y := y) hl hy
      refine ⟨-1 :: x, by simp [h1], ?_, ?_, ?_⟩
      · unfold kpP at h2 ⊢; simp; simpa using h2
      · unfold kpX at h3 ⊢; simp; simpa using h3
      · intro d hd
        rcases List.mem_cons.1 hd with rfl | hd
        · exact .inr rfl
        · exact h4 d hd
theorem zip_snoc {ps : List Pr} {x : List Int} {c : Int} (h : x.length < ps.length) : ps.zip (x ++ [c]) = ps.zip x ++ [(ps.getD x.length default, c)] := by
  have e1 : ps = ps.take x.length ++ ps.getD x.length default :: ps.drop (x.length + 1) := by
    rw [List.getD_eq_getElem?_getD, List.getElem?_eq_getElem h, Option.getD_some, ← List.drop_eq_getElem_cons h, List.take_append_drop]
  have e2 : (ps.take x.length).length = x.length := by rw [List.length_take]; omega
  generalize ps.getD x.length default = q at e1 ⊢
  generalize ps.drop (x.length + 1) = r at e1
  rw [e1]
  generalize ps.take x.length = a at e2
  rw [List.zip_append e2]
  have : a.zip x = (a ++ q :: r).zip x := by
    rw [show (a ++ q :: r).zip x = (a ++ q :: r).zip (x ++ []) by rw [List.append_nil], List.zip_append e2]; simp
  rw [← this]; simp
theorem laid_snoc {x : List Int} {c : Int} : laid (x ++ [c]) = laid x ++ (if c ≠ -1 then [(x.length : Int)] else []) := by
  have h1 : ∀ i, i < x.length → (x ++ [c]).getD i 0 = x.getD i 0 := fun i hi => by
    rw [List.getD_eq_getElem?_getD, List.getElem?_append_left hi, List.getD_eq_getElem?_getD]
  have h2 : (x ++ [c]).getD x.length 0 = c := by simp [List.getD_eq_getElem?_getD]
  unfold laid
  rw [List.length_append, List.length_singleton, idx_succ, h2]
  congr 1
  · unfold idx
    rw [List.filter_congr (q := fun i => decide (x.getD i 0 ≠ -1)) fun i hi => by rw [h1 i (List.mem_range.1 hi)]]
  · by_cases e : c = -1 <;> simp [e]
section
variable {h : Hs}
theorem laid_kp : ∀ {x : List Int}, x.length ≤ h.ps.length → h.pts (laid x) = kpP h.ps x := by
  intro x
  refine snocRec (fun x => x.length ≤ h.ps.length → h.pts (laid x) = kpP h.ps x) x (fun _ => by simp [laid, idx, Hs.pts, kpP]) ?_
  intro x c ih hl
  rw [List.length_append, List.length_singleton] at hl
  rw [laid_snoc]
  unfold kpP at ih ⊢
  rw [zip_snoc (by omega), List.filter_append, List.map_append, ← ih (by omega)]
  unfold Hs.pts
  rw [List.map_append]
  congr 1
  by_cases e : c = -1 <;> simp [e]
/-- the house with a choice of its parts -/
def Hs.sub (h : Hs) (m : Nat) : Hs := { h with ps := selR h.ps m }
theorem sub_G (G : HG h) (m : Nat) : HG (h.sub m) where
  nk := G.nk
  np := Nat.le_trans selR_sub.length_le G.np
  nb := G.nb
  g := G.g
  b := G.b
  q := by
    have key : ∀ q ∈ h.ps, (0 ≤ q.k ∧ q.k < h.ks.length) ∧ 0 ≤ q.p ∧ q.p ≤ 40 := fun q hq => by
      obtain ⟨i, hi, rfl⟩ := mem_getD (d := default) hq
      exact G.q i hi
    intro i hi
    have hs : (h.sub m).ps.Sublist h.ps := selR_sub
    have hm : (h.sub m).ps.getD i default ∈ (h.sub m).ps := by
      rw [List.getD_eq_getElem?_getD, List.getElem?_eq_getElem hi]; exact List.getElem_mem hi
    exact key _ (hs.subset hm)
def Hs.val (h : Hs) (s : Int) (m : Nat) : Int := if (h.sub m).pk ≠ [] ∧ lsf (h.sub m).sa (h.sub m).pk ≤ s then (h.sub m).all else 0
def Hs.vals (h : Hs) (s : Int) (n : Nat) : Int := mxs ((List.range n).map (h.val s))
theorem vals_succ {s : Int} {n : Nat} : h.vals s (n + 1) = mx (h.vals s n) (h.val s n) := by
  unfold Hs.vals; rw [List.range_succ, List.map_append]; exact mxs_snoc
theorem kp_ft {m : Nat} {x : List Int} (hl : h.ps.length = x.length) (e : kpP h.ps x = selR h.ps m) : (h.sub m).ft (kpX x) = h.ft x ∧ (h.sub m).sa (kpX x) = h.sa x := by
  have key : ∀ c : Nat, prs (h.sub m).ps (kpX x) c = prs h.ps x c := fun c => by
    show prs (selR h.ps m) (kpX x) c = _
    rw [← e]; exact kp_prs hl (by omega)
  constructor
  · show ((List.range h.bs.length).all fun b => decide (ndP h.ks h.fl (prs (h.sub m).ps (kpX x) b) ≤ h.bs.getD b 0)) = _
    unfold Hs.ft
    congr 1
    funext b
    rw [key b]
  · show (sums h.bs.length fun b => slP h.ks h.fl (prs (h.sub m).ps (kpX x) b)) = _
    unfold Hs.sa
    congr 1
    funext b
    rw [key b]
theorem all_lbl {m : Nat} {x : List Int} (hl : h.ps.length = x.length) (e : kpP h.ps x = selR h.ps m) : h.lbl x = (h.sub m).all := by
  unfold Hs.lbl Hs.all
  rw [laid_kp (by omega), e]; rfl
theorem all_nonneg (G : HG h) : 0 ≤ h.all := (lb_bd G.pg).1
theorem stock_eq (G : HG h) {s : Int} : h.vals s (2 ^ h.ps.length) = mst (h.sto s) h.po := by
  apply Int.le_antisymm
  · refine mxs_le mst_ge.1 fun c hc => ?_
    obtain ⟨m, _, rfl⟩ := List.mem_map.1 hc
    unfold Hs.val
    split
    · rename_i hv
      obtain ⟨y, hy, ey⟩ := (lsf_spec (f := (h.sub m).sa) hv.1).1
      have Py := (sub_G G m).mem_pk.1 hy
      obtain ⟨x, xl, xp, xx, xm⟩ := of_sel (ps := h.ps) (m := m) (y := y) Py.l fun c hc => by have := Py.c c hc; omega
      have k1 := kp_ft xl.symm xp
      rw [xx] at k1
      have Px : Pko h x := ⟨xl, fun c hc => by
        rcases xm c hc with h1 | h1
        · have := Py.c c h1
          have e : (h.sub m).bs.length = h.bs.length := rfl
          omega
        · omega, by rw [← k1.1]; exact Py.f⟩
      have := mst_ge (f := h.sto s) (l := h.po)
      have h2 := this.2 x (G.mem_po.2 Px)
      have h3 : h.sto s x = (h.sub m).all := by
        unfold Hs.sto
        rw [if_pos (by rw [← k1.2, ey]; exact hv.2), all_lbl xl.symm xp]
      rw [← h3]; exact h2
    · exact mst_ge.1
  · have g0 : 0 ≤ h.vals s (2 ^ h.ps.length) := mxs_ge.1
    refine mst_le g0 fun x hx => ?_
    have P := G.mem_po.1 hx
    unfold Hs.sto
    split
    · rename_i hs
      obtain ⟨m, hm, e⟩ := sel_of (ps := h.ps) (x := x) P.l.symm
      have k1 := kp_ft P.l.symm e.symm
      have Py : Pkg (h.sub m) (kpX x) := ⟨by rw [kp_len P.l.symm, ← e]; rfl, fun c hc => by
        have hc' := List.mem_filter.1 hc
        have := P.c c hc'.1
        have h2 : c ≠ -1 := by simpa using hc'.2
        show 0 ≤ c ∧ c < h.bs.length
        omega, by rw [k1.1]; exact P.f⟩
      have my := (sub_G G m).mem_pk.2 Py
      have ne : (h.sub m).pk ≠ [] := fun h0 => by rw [h0] at my; cases my
      have hv : h.val s m = h.lbl x := by
        unfold Hs.val
        rw [if_pos ⟨ne, Int.le_trans ((lsf_spec (f := (h.sub m).sa) ne).2 _ my) (by rw [k1.2]; exact hs)⟩, all_lbl P.l.symm e.symm]
      rw [← hv]
      exact mxs_ge.2 _ (List.mem_map.2 ⟨m, List.mem_range.2 hm, rfl⟩)
    · exact g0
end
end Go.Proofs.Ytcdedbpmjhjehaa.S

