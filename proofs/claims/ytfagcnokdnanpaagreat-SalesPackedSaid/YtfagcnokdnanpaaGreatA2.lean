/-
Functions of both sides of stage 7, one after another (A2).
-/
import Derived.Test.YtfagcnokdnanpaaGreatA1
/-
The specification's lists of all packings.
-/
namespace Go.Proofs.YtfagcnokdnanpaaGreat.S
open Go Go.Am Go.Proofs.YtfagcnokdnanpaaGreat.T
set_option maxRecDepth 100000
set_option linter.unusedSimpArgs false
set_option linter.unusedVariables false
def csL (lo : Int) (n : Nat) : List Int := (List.range n).map fun (j : Nat) => lo + (j : Int)
theorem csL_zero {n : Nat} : csL 0 n = upto n := by simp [csL, upto]
theorem csL_succ {lo : Int} {n : Nat} : csL lo (n + 1) = csL lo n ++ [lo + (n : Int)] := by simp [csL, List.range_succ]
def enP (ok : List Int → Bool) (cs : List Int) (d : Nat) (F : List Int) (lo : Int) (k : Nat) : List (List Int) := (csL lo k).flatMap fun c => ens ok cs d (F ++ [c])
theorem enP_succ {ok : List Int → Bool} {cs : List Int} {d : Nat} {F : List Int} {lo : Int} {k : Nat} : enP ok cs d F lo (k + 1) = enP ok cs d F lo k ++ ens ok cs d (F ++ [lo + (k : Int)]) := by
  simp [enP, csL_succ, List.flatMap_append]
theorem pow5_le {n d : Nat} (hn : n ≤ 5) (hd : d ≤ 6) : n ^ d ≤ 15625 := by
  have h1 := Nat.pow_le_pow_left hn d
  have h2 := Nat.pow_le_pow_right (n := 5) (by omega) hd
  have : 5 ^ 6 = 15625 := by decide
  omega
section
variable {h : Hs} {k p b : AV}
end
end Go.Proofs.YtfagcnokdnanpaaGreat.S
/-
The specification's answers.
-/
namespace Go.Proofs.YtfagcnokdnanpaaGreat.S
open Go Go.Am Go.Proofs.YtfagcnokdnanpaaGreat.T
set_option maxRecDepth 100000
set_option linter.unusedSimpArgs false
set_option linter.unusedVariables false
section
variable {h : Hs} {k p b : AV}
def askS (v q : Bool) : Int := if v then (if q then 0 else 1) else 80
end
end Go.Proofs.YtfagcnokdnanpaaGreat.S
/-
The specification's answers that are lists; copies; what the laws ask of houses.
-/
namespace Go.Proofs.YtfagcnokdnanpaaGreat.S
open Go Go.Am Go.Proofs.YtfagcnokdnanpaaGreat.T
set_option maxRecDepth 100000
set_option linter.unusedSimpArgs false
set_option linter.unusedVariables false
section
variable {h : Hs} {k p b : AV}
end
end Go.Proofs.YtfagcnokdnanpaaGreat.S
/-
Copies of houses, with a barrel more, without a part; what is bought (specification).
-/
namespace Go.Proofs.YtfagcnokdnanpaaGreat.S
open Go Go.Am Go.Proofs.YtfagcnokdnanpaaGreat.T
set_option maxRecDepth 100000
set_option linter.unusedSimpArgs false
set_option linter.unusedVariables false
structure CpH (h : Hs) (g : List AO) (ok op ob : Nat) : Prop where
  n1 : ok < op
  n2 : op < ob
  k : g[ok]? = some (.cells (h.ks.flatMap Kd.e) false)
  p : g[op]? = some (.cells (h.ps.flatMap Pr.e) false)
  b : g[ob]? = some (.cells (h.bs.flatMap intL) false)
abbrev msK (h : Hs) (o : Nat) : AV := .ms 2 o 0 h.ks.length
abbrev msP (h : Hs) (o : Nat) : AV := .ms 2 o 0 h.ps.length
abbrev msB (h : Hs) (o : Nat) : AV := .ms 1 o 0 h.bs.length
abbrev cpV (h : Hs) : AV := hsV h.fl (slV 2 Kd.e h.ks) (slV 2 Pr.e h.ps) (slV 1 intL h.bs)
theorem viewK {l : List Kd} {g : List AO} {o : Nat} (hc : g[o]? = some (.cells (l.flatMap Kd.e) false)) {st : Bool} {n : Nat} : Am.view st g (n + 1) (.ms 2 o 0 l.length) = some (slV 2 Kd.e l) := RdC.view (enc := Kd.e) ⟨o, rfl, hc⟩ Kd.el Kd.iv
theorem viewP {l : List Pr} {g : List AO} {o : Nat} (hc : g[o]? = some (.cells (l.flatMap Pr.e) false)) {st : Bool} {n : Nat} : Am.view st g (n + 1) (.ms 2 o 0 l.length) = some (slV 2 Pr.e l) := RdC.view (enc := Pr.e) ⟨o, rfl, hc⟩ Pr.el Pr.iv
theorem viewB {l : List Int} {g : List AO} {o : Nat} (hc : g[o]? = some (.cells (l.flatMap intL) false)) {st : Bool} {n : Nat} : Am.view st g (n + 1) (.ms 1 o 0 l.length) = some (slV 1 intL l) := RdC.view (enc := intL) ⟨o, rfl, hc⟩ intE intIv
theorem CpH.view {h : Hs} {g : List AO} {ok op ob : Nat} (C : CpH h g ok op ob) (st : Bool) {n : Nat} : Am.view st g (n + 2) (hsV h.fl (msK h ok) (msP h op) (msB h ob)) = some (cpV h) := by
  show ([msK h ok, I h.fl, msP h op, msB h ob].mapM (Am.view st g (n + 1))).map AV.agg = _
  simp only [List.mapM_cons, List.mapM_nil, view_int, viewK C.k, viewP C.p, viewB C.b]
  rfl
theorem set_of {α : Type} {l : List α} {i j : Nat} {x y : α} (h : l[j]? = some y) (hne : i ≠ j) : (l.set i x)[j]? = some y := by rw [List.getElem?_set_ne hne]; exact h
theorem set_at {α : Type} {l : List α} {i : Nat} {x y : α} (h : l[i]? = some y) : (l.set i x)[i]? = some x := by
  have := (List.getElem?_eq_some_iff.1 h).1
  simp [this]
section
variable {h : Hs} {k p b : AV}
set_option maxHeartbeats 4000000 in
theorem r17 (H : HsOk h k p b) : ∃ J ok op ob, R E (.fn 72) [hsV h.fl k p b] [] 0 = some (hsV h.fl (msK h ok) (msP h op) (msB h ob), J) ∧ CpH h J ok op ob := by
  have n1 := H.nk; have n2 := H.np; have n3 := H.nb
  obtain ⟨o1, h1, A1, fr1, lo1, hc1⟩ := cpyO (eb := 16) (lim := 0) (h := [.cells [k, I h.fl, p, b] false, .cells [.nils, I 0, .nils, .nils] false, .cells [k, I h.fl, p, b] false]) H.k Kd.el Kd.sc (by omega) (by omega) (Nat.zero_le _)
  simp only [List.length_cons, List.length_nil, Nat.zero_add, Nat.reduceAdd, apC, apN] at A1 lo1
  have a0 := fr1.at (j := 0) rfl
  have a1 := fr1.at (j := 1) rfl
  have a2 := fr1.at (j := 2) rfl
  obtain ⟨H1, e1⟩ : ∃ H1, H1 = h1.set 2 (.cells [msK h o1, I h.fl, p, b] false) := ⟨_, rfl⟩
  have b0 : H1[0]? = some (.cells [k, I h.fl, p, b] false) := by rw [e1]; exact set_of a0 (by omega)
  have b1 : H1[1]? = some (.cells [.nils, I 0, .nils, .nils] false) := by rw [e1]; exact set_of a1 (by omega)
  have b2 : H1[2]? = some (.cells [msK h o1, I h.fl, p, b] false) := by rw [e1]; exact set_at a2
  have bk : H1[o1]? = some (.cells (h.ks.flatMap Kd.e) false) := by rw [e1]; exact set_of hc1 (by omega)
  have l1 := (List.getElem?_eq_some_iff.1 b2).1
  have lk := (List.getElem?_eq_some_iff.1 bk).1
  obtain ⟨o2, h2, A2, fr2, lo2, hc2⟩ := cpyO (eb := 16) (lim := 0) (h := H1) H.p Pr.el Pr.sc (by omega) (by omega) (Nat.zero_le _)
  obtain ⟨H2, e2⟩ : ∃ H2, H2 = h2.set 2 (.cells [msK h o1, I h.fl, msP h o2, b] false) := ⟨_, rfl⟩
  have c0 : H2[0]? = some (.cells [k, I h.fl, p, b] false) := by rw [e2]; exact set_of (fr2.at b0) (by omega)
  have c1 : H2[1]? = some (.cells [.nils, I 0, .nils, .nils] false) := by rw [e2]; exact set_of (fr2.at b1) (by omega)
  have c2 : H2[2]? = some (.cells [msK h o1, I h.fl, msP h o2, b] false) := by rw [e2]; exact set_at (fr2.at b2)
  have ck : H2[o1]? = some (.cells (h.ks.flatMap Kd.e) false) := by rw [e2]; exact set_of (fr2.at bk) (by omega)
  have cp : H2[o2]? = some (.cells (h.ps.flatMap Pr.e) false) := by rw [e2]; exact set_of hc2 (by omega)
  have l2 := (List.getElem?_eq_some_iff.1 c2).1
  have lp := (List.getElem?_eq_some_iff.1 cp).1
  obtain ⟨o3, h3, A3, fr3, lo3, hc3⟩ := cpyO (eb := 8) (lim := 0) (h := H2) H.b intE intSc (by omega) (by omega) (Nat.zero_le _)
  obtain ⟨H3, e3⟩ : ∃ H3, H3 = h3.set 2 (.cells [msK h o1, I h.fl, msP h o2, msB h o3] false) := ⟨_, rfl⟩
  have d0 : H3[0]? = some (.cells [k, I h.fl, p, b] false) := by rw [e3]; exact set_of (fr3.at c0) (by omega)
  have d1 : H3[1]? = some (.cells [.nils, I 0, .nils, .nils] false) := by rw [e3]; exact set_of (fr3.at c1) (by omega)
  have d2 : H3[2]? = some (.cells [msK h o1, I h.fl, msP h o2, msB h o3] false) := by rw [e3]; exact set_at (fr3.at c2)
  have dk : H3[o1]? = some (.cells (h.ks.flatMap Kd.e) false) := by rw [e3]; exact set_of (fr3.at ck) (by omega)
  have dp : H3[o2]? = some (.cells (h.ps.flatMap Pr.e) false) := by rw [e3]; exact set_of (fr3.at cp) (by omega)
  have db : H3[o3]? = some (.cells (h.bs.flatMap intL) false) := by rw [e3]; exact set_of hc3 (by omega)
  have l3 := (List.getElem?_eq_some_iff.1 d2).1
  refine (fun x => ?_ : (∃ r g, R E (.fn 72) [hsV h.fl k p b] [] 0 = some (r, g) ∧ (r = hsV h.fl (msK h o1) (msP h o2) (msB h o3) ∧ CpH h g o1 o2 o3)) → _) (R_of _ (es _ _ _ _) e72 ?_)
  · obtain ⟨r, g, hr, rfl, hc⟩ := x; exact ⟨g, _, _, _, hr, hc⟩
  simp only [f72, hsV]
  simp (disch := first | assumption | omega | (simp only [az]; done)) only [ru, eq_self, if_true, if_false, BEq.rfl, binI, AO.row?, splice, fillL, mmAll, loadV, storeV, zeros, Am.rowAt, Am.part, addOff, Nat.reduceAdd, Nat.reduceMul, Nat.reduceLeDiff, Nat.reduceSub, Nat.reduceLT, Int.reduceEq, Int.reduceLT, Int.reduceLE, Int.reduceGT, Int.reduceGE, Int.reduceAdd, Int.reduceSub, Int.reduceMul, Int.reduceNeg, Int.reduceToNat, reduceCtorEq, reduceIte, lenV_sl H.k, lenV_sl H.p, lenV_sl H.b, elem_kd H.k, elem_pr H.p, elem_in H.b, view_sl H.k, view_sl H.p, view_sl H.b, scalar_sl H.k, scalar_sl H.p, scalar_sl H.b, cells_sl H.k, cells_sl H.p, cells_sl H.b, pure_sl H.k, pure_sl H.p, pure_sl H.b, Int.toNat_natCast, exOp_buildSlice, List.map_nil, exOp_append, A1, a0, a1, a2, ← e1, b0, b1, b2, l1, at_ap, A2, fr2.at b0, fr2.at b2, ← e2, c0, c2, l2, A3, fr3.at c0, fr3.at c2, ← e3, d0, d1, d2, l3, finC, getRes, Option.some.injEq, exists_eq_left', set_at d1]
  exact ⟨by omega, by omega, set_of dk (by omega), set_of dp (by omega), set_of db (by omega)⟩
theorem s17 (H : HsOk h k p b) (st : Bool) : Iso E 72 [hsV h.fl k p b] st = some (cpV h) := by
  obtain ⟨J, ok, op, ob, hr, C⟩ := r17 H
  simp only [Iso, hr]
  exact C.view st
end
end Go.Proofs.YtfagcnokdnanpaaGreat.S
/-
What the laws ask of houses; a part less; what is bought, and the rest of the specification's answers.
-/
namespace Go.Proofs.YtfagcnokdnanpaaGreat.S
open Go Go.Am Go.Proofs.YtfagcnokdnanpaaGreat.T
set_option maxRecDepth 100000
set_option linter.unusedSimpArgs false
set_option linter.unusedVariables false
theorem s28 {l : List Int} {u v : AV} (U : IsSl 1 intL l u) (V : IsSl 1 intL l v) (hl : l.length ≤ 100000) (st : Bool) : Iso E 35 [u, v] st = some (Bo true) := by
  refine Iso_of (es _ _ _ _) e35 ?_
  simp only [f35]
  simp (disch := first | assumption | omega | (simp only [az]; done)) only [ru, eq_self, if_true, if_false, BEq.rfl, binI, AO.row?, splice, fillL, mmAll, loadV, storeV, zeros, Am.rowAt, Am.part, addOff, Nat.reduceAdd, Nat.reduceMul, Nat.reduceLeDiff, Nat.reduceSub, Nat.reduceLT, Int.reduceEq, Int.reduceLT, Int.reduceLE, Int.reduceGT, Int.reduceGE, Int.reduceAdd, Int.reduceSub, Int.reduceMul, Int.reduceNeg, Int.reduceToNat, reduceCtorEq, reduceIte, lenV_sl U, elem_in U, view_sl U, scalar_sl U, cells_sl U, pure_sl U, Int.toNat_natCast, lenV_sl V, elem_in V, view_sl V, scalar_sl V, cells_sl V, pure_sl V, Int.toNat_natCast, decide_true, Bool.not_true]
  refine G_loop_ind (fun m ts h mk => ∃ i : Nat, i ≤ l.length ∧ m = l.length - i ∧ ts.length = 26 ∧ ts.getD 0 .undef = u ∧ ts.getD 1 .undef = v ∧ ts.getD 5 .undef = I i ∧ h = [] ∧ mk = []) ?_ _ _ _ _ ⟨0, Nat.zero_le _, rfl, rfl, rfl, rfl, rfl, rfl, rfl⟩
  rintro m ts h mk ih ⟨i, hi, rfl, hl', q0, q1, q5, rfl, rfl⟩
  rw [lit_all hl']
  simp only [lit0, litS, Nat.reduceAdd, q0, q1, q5]
  simp (disch := first | assumption | omega | (simp only [az]; done)) only [ru, eq_self, if_true, if_false, BEq.rfl, binI, AO.row?, splice, fillL, mmAll, loadV, storeV, zeros, Am.rowAt, Am.part, addOff, Nat.reduceAdd, Nat.reduceMul, Nat.reduceLeDiff, Nat.reduceSub, Nat.reduceLT, Int.reduceEq, Int.reduceLT, Int.reduceLE, Int.reduceGT, Int.reduceGE, Int.reduceAdd, Int.reduceSub, Int.reduceMul, Int.reduceNeg, Int.reduceToNat, reduceCtorEq, reduceIte, lenV_sl U, elem_in U, view_sl U, scalar_sl U, cells_sl U, pure_sl U, Int.toNat_natCast]
  by_cases hlt : (i : Int) < l.length
  case pos =>
    simp (disch := first | assumption | omega | (simp only [az]; done)) only [ru, eq_self, if_true, if_false, BEq.rfl, binI, AO.row?, splice, fillL, mmAll, loadV, storeV, zeros, Am.rowAt, Am.part, addOff, Nat.reduceAdd, Nat.reduceMul, Nat.reduceLeDiff, Nat.reduceSub, Nat.reduceLT, Int.reduceEq, Int.reduceLT, Int.reduceLE, Int.reduceGT, Int.reduceGE, Int.reduceAdd, Int.reduceSub, Int.reduceMul, Int.reduceNeg, Int.reduceToNat, reduceCtorEq, reduceIte, lenV_sl U, elem_in U, view_sl U, scalar_sl U, cells_sl U, pure_sl U, Int.toNat_natCast, lenV_sl V, elem_in V, view_sl V, scalar_sl V, cells_sl V, pure_sl V, Int.toNat_natCast, hlt, decide_true, Bool.not_true]
    exact ih (l.length - (i + 1)) _ _ _ (by omega) ⟨i + 1, by omega, rfl, rfl, rfl, rfl, rfl, rfl, rfl⟩
  simp (disch := first | assumption | omega | (simp only [az]; done)) only [ru, eq_self, if_true, if_false, BEq.rfl, binI, AO.row?, splice, fillL, mmAll, loadV, storeV, zeros, Am.rowAt, Am.part, addOff, Nat.reduceAdd, Nat.reduceMul, Nat.reduceLeDiff, Nat.reduceSub, Nat.reduceLT, Int.reduceEq, Int.reduceLT, Int.reduceLE, Int.reduceGT, Int.reduceGE, Int.reduceAdd, Int.reduceSub, Int.reduceMul, Int.reduceNeg, Int.reduceToNat, reduceCtorEq, reduceIte, hlt]
def Hs.huge (h : Hs) : Bool := decide ((h.ks.length : Int) > 40) || decide ((h.ps.length : Int) > 40) || decide ((h.bs.length : Int) > 40)
def Hs.far (h : Hs) : Bool := h.huge || (h.valid && decide ((((h.bs.length : Int) + 1) ^ h.ps.length) > 700))
section
variable {h : Hs} {k p b : AV}
theorem s15 (H : HsIn h k p b) (st : Bool) : Iso E 73 [hsV h.fl k p b] st = some (Bo h.huge) := by
  refine Iso_of (es _ _ _ _) e73 ?_
  simp only [f73, hsV, Hs.huge]
  by_cases c1 : (h.ks.length : Int) > 40
  · simp (disch := first | assumption | omega | (simp only [az]; done)) only [ru, eq_self, if_true, if_false, BEq.rfl, binI, AO.row?, splice, fillL, mmAll, loadV, storeV, zeros, Am.rowAt, Am.part, addOff, Nat.reduceAdd, Nat.reduceMul, Nat.reduceLeDiff, Nat.reduceSub, Nat.reduceLT, Int.reduceEq, Int.reduceLT, Int.reduceLE, Int.reduceGT, Int.reduceGE, Int.reduceAdd, Int.reduceSub, Int.reduceMul, Int.reduceNeg, Int.reduceToNat, reduceCtorEq, reduceIte, lenV_sl H.k, lenV_sl H.p, lenV_sl H.b, elem_kd H.k, elem_pr H.p, elem_in H.b, view_sl H.k, view_sl H.p, view_sl H.b, scalar_sl H.k, scalar_sl H.p, scalar_sl H.b, cells_sl H.k, cells_sl H.p, cells_sl H.b, pure_sl H.k, pure_sl H.p, pure_sl H.b, Int.toNat_natCast, c1, decide_true, gUn, Bool.true_or]
  by_cases c2 : (h.ps.length : Int) > 40
  · simp (disch := first | assumption | omega | (simp only [az]; done)) only [ru, eq_self, if_true, if_false, BEq.rfl, binI, AO.row?, splice, fillL, mmAll, loadV, storeV, zeros, Am.rowAt, Am.part, addOff, Nat.reduceAdd, Nat.reduceMul, Nat.reduceLeDiff, Nat.reduceSub, Nat.reduceLT, Int.reduceEq, Int.reduceLT, Int.reduceLE, Int.reduceGT, Int.reduceGE, Int.reduceAdd, Int.reduceSub, Int.reduceMul, Int.reduceNeg, Int.reduceToNat, reduceCtorEq, reduceIte, lenV_sl H.k, lenV_sl H.p, lenV_sl H.b, elem_kd H.k, elem_pr H.p, elem_in H.b, view_sl H.k, view_sl H.p, view_sl H.b, scalar_sl H.k, scalar_sl H.p, scalar_sl H.b, cells_sl H.k, cells_sl H.p, cells_sl H.b, pure_sl H.k, pure_sl H.p, pure_sl H.b, Int.toNat_natCast, c1, c2, decide_true, decide_false, gUn, Bool.true_or, Bool.false_or]
  simp (disch := first | assumption | omega | (simp only [az]; done)) only [ru, eq_self, if_true, if_false, BEq.rfl, binI, AO.row?, splice, fillL, mmAll, loadV, storeV, zeros, Am.rowAt, Am.part, addOff, Nat.reduceAdd, Nat.reduceMul, Nat.reduceLeDiff, Nat.reduceSub, Nat.reduceLT, Int.reduceEq, Int.reduceLT, Int.reduceLE, Int.reduceGT, Int.reduceGE, Int.reduceAdd, Int.reduceSub, Int.reduceMul, Int.reduceNeg, Int.reduceToNat, reduceCtorEq, reduceIte, lenV_sl H.k, lenV_sl H.p, lenV_sl H.b, elem_kd H.k, elem_pr H.p, elem_in H.b, view_sl H.k, view_sl H.p, view_sl H.b, scalar_sl H.k, scalar_sl H.p, scalar_sl H.b, cells_sl H.k, cells_sl H.p, cells_sl H.b, pure_sl H.k, pure_sl H.p, pure_sl H.b, Int.toNat_natCast, c1, c2, decide_true, decide_false, gUn, Bool.true_or, Bool.false_or]
theorem huge_ok (H : HsIn h k p b) (hh : h.huge = false) : HsOk h k p b := by
  simp only [Hs.huge, Bool.or_eq_false_iff, decide_eq_false_iff_not] at hh
  exact ⟨H, by omega, by omega, by omega⟩
theorem pow_lt {n : Nat} (hn : n ≤ 4) : ∀ {i : Nat}, i ≤ 6 → 0 ≤ ((n : Int) + 1) ^ i ∧ ((n : Int) + 1) ^ i ≤ 15625 := by
  intro i hi
  have h1 := pow5_le (n := n + 1) (d := i) (by omega) hi
  have : (((n + 1) ^ i : Nat) : Int) = ((n : Int) + 1) ^ i := by push_cast; rfl
  omega
set_option maxHeartbeats 1000000 in
theorem s29 (H : HsIn h k p b) (st : Bool) : Iso E 69 [hsV h.fl k p b] st = some (Bo h.far) := by
  have a := fun st => s15 H st
  simp only [hsV] at a
  refine Iso_of (es _ _ _ _) e69 ?_
  simp only [f69, hsV, Hs.far]
  cases c : h.huge
  case true => simp (disch := first | assumption | omega | (simp only [az]; done)) only [ru, eq_self, if_true, if_false, BEq.rfl, binI, AO.row?, splice, fillL, mmAll, loadV, storeV, zeros, Am.rowAt, Am.part, addOff, Nat.reduceAdd, Nat.reduceMul, Nat.reduceLeDiff, Nat.reduceSub, Nat.reduceLT, Int.reduceEq, Int.reduceLT, Int.reduceLE, Int.reduceGT, Int.reduceGE, Int.reduceAdd, Int.reduceSub, Int.reduceMul, Int.reduceNeg, Int.reduceToNat, reduceCtorEq, reduceIte, lenV_sl H.k, lenV_sl H.p, lenV_sl H.b, elem_kd H.k, elem_pr H.p, elem_in H.b, view_sl H.k, view_sl H.p, view_sl H.b, scalar_sl H.k, scalar_sl H.p, scalar_sl H.b, cells_sl H.k, cells_sl H.p, cells_sl H.b, pure_sl H.k, pure_sl H.p, pure_sl H.b, Int.toNat_natCast, a, c, Bool.true_or]
  have O := huge_ok H c
  have a2 := fun st => s20 O st
  simp only [hsV, vE] at a2
  cases c2 : h.valid
  · simp only [c2] at a2
    simp (disch := first | assumption | omega | (simp only [az]; done)) only [ru, eq_self, if_true, if_false, BEq.rfl, binI, AO.row?, splice, fillL, mmAll, loadV, storeV, zeros, Am.rowAt, Am.part, addOff, Nat.reduceAdd, Nat.reduceMul, Nat.reduceLeDiff, Nat.reduceSub, Nat.reduceLT, Int.reduceEq, Int.reduceLT, Int.reduceLE, Int.reduceGT, Int.reduceGE, Int.reduceAdd, Int.reduceSub, Int.reduceMul, Int.reduceNeg, Int.reduceToNat, reduceCtorEq, reduceIte, lenV_sl H.k, lenV_sl H.p, lenV_sl H.b, elem_kd H.k, elem_pr H.p, elem_in H.b, view_sl H.k, view_sl H.p, view_sl H.b, scalar_sl H.k, scalar_sl H.p, scalar_sl H.b, cells_sl H.k, cells_sl H.p, cells_sl H.b, pure_sl H.k, pure_sl H.p, pure_sl H.b, Int.toNat_natCast, a, c, a2, decide_true, decide_false, Bool.not_false, Bool.false_and, Bool.false_or]
    done
  simp only [c2] at a2
  have G := valid_iff.1 c2
  have np := G.np; have nb := G.nb
  simp (disch := first | assumption | omega | (simp only [az]; done)) only [ru, eq_self, if_true, if_false, BEq.rfl, binI, AO.row?, splice, fillL, mmAll, loadV, storeV, zeros, Am.rowAt, Am.part, addOff, Nat.reduceAdd, Nat.reduceMul, Nat.reduceLeDiff, Nat.reduceSub, Nat.reduceLT, Int.reduceEq, Int.reduceLT, Int.reduceLE, Int.reduceGT, Int.reduceGE, Int.reduceAdd, Int.reduceSub, Int.reduceMul, Int.reduceNeg, Int.reduceToNat, reduceCtorEq, reduceIte, lenV_sl H.k, lenV_sl H.p, lenV_sl H.b, elem_kd H.k, elem_pr H.p, elem_in H.b, view_sl H.k, view_sl H.p, view_sl H.b, scalar_sl H.k, scalar_sl H.p, scalar_sl H.b, cells_sl H.k, cells_sl H.p, cells_sl H.b, pure_sl H.k, pure_sl H.p, pure_sl H.b, Int.toNat_natCast, a, c, a2, decide_true, decide_false, Bool.not_true]
  refine G_loop_ind (fun m ts hh mk => ∃ i : Nat, i ≤ h.ps.length ∧ m = h.ps.length - i ∧ ts.length = 25 ∧ ts.getD 1 .undef = .ptr 0 0 ∧ ts.getD 3 .undef = I (((h.bs.length : Int) + 1) ^ i) ∧ ts.getD 4 .undef = I i ∧ hh = [.cells [k, I h.fl, p, b] false] ∧ mk = []) ?_ _ _ _ _ ⟨0, Nat.zero_le _, rfl, rfl, rfl, by simp [lit], rfl, rfl, rfl⟩
  rintro m ts hh mk ih ⟨i, hi', rfl, hl', q1, q3, q4, rfl, rfl⟩
  rw [lit_all hl']
  simp only [lit0, litS, Nat.reduceAdd, q1, q3, q4]
  simp (disch := first | assumption | omega | (simp only [az]; done)) only [ru, eq_self, if_true, if_false, BEq.rfl, binI, AO.row?, splice, fillL, mmAll, loadV, storeV, zeros, Am.rowAt, Am.part, addOff, Nat.reduceAdd, Nat.reduceMul, Nat.reduceLeDiff, Nat.reduceSub, Nat.reduceLT, Int.reduceEq, Int.reduceLT, Int.reduceLE, Int.reduceGT, Int.reduceGE, Int.reduceAdd, Int.reduceSub, Int.reduceMul, Int.reduceNeg, Int.reduceToNat, reduceCtorEq, reduceIte, lenV_sl H.k, lenV_sl H.p, lenV_sl H.b, elem_kd H.k, elem_pr H.p, elem_in H.b, view_sl H.k, view_sl H.p, view_sl H.b, scalar_sl H.k, scalar_sl H.p, scalar_sl H.b, cells_sl H.k, cells_sl H.p, cells_sl H.b, pure_sl H.k, pure_sl H.p, pure_sl H.b, Int.toNat_natCast]
  by_cases hlt : (i : Int) < h.ps.length
  case pos =>
    have b1 := pow_lt nb (i := i) (by omega)
    have b2 := pow_lt nb (i := i + 1) (by omega)
    have e1 : ((h.bs.length : Int) + 1) ^ (i + 1) = ((h.bs.length : Int) + 1) ^ i * ((h.bs.length : Int) + 1) := Int.pow_succ _ _
    obtain ⟨z, hz⟩ : ∃ z, z = ((h.bs.length : Int) + 1) ^ i := ⟨_, rfl⟩
    rw [e1, ← hz] at b2
    rw [← hz] at b1 e1 ⊢
    obtain ⟨y, hy⟩ : ∃ y, y = z * ((h.bs.length : Int) + 1) := ⟨_, rfl⟩
    rw [← hy] at b2
    simp (disch := first | assumption | omega | (simp only [az]; done)) only [ru, eq_self, if_true, if_false, BEq.rfl, binI, AO.row?, splice, fillL, mmAll, loadV, storeV, zeros, Am.rowAt, Am.part, addOff, Nat.reduceAdd, Nat.reduceMul, Nat.reduceLeDiff, Nat.reduceSub, Nat.reduceLT, Int.reduceEq, Int.reduceLT, Int.reduceLE, Int.reduceGT, Int.reduceGE, Int.reduceAdd, Int.reduceSub, Int.reduceMul, Int.reduceNeg, Int.reduceToNat, reduceCtorEq, reduceIte, lenV_sl H.k, lenV_sl H.p, lenV_sl H.b, elem_kd H.k, elem_pr H.p, elem_in H.b, view_sl H.k, view_sl H.p, view_sl H.b, scalar_sl H.k, scalar_sl H.p, scalar_sl H.b, cells_sl H.k, cells_sl H.p, cells_sl H.b, pure_sl H.k, pure_sl H.p, pure_sl H.b, Int.toNat_natCast, hlt, ← hy]
    exact ih (h.ps.length - (i + 1)) _ _ _ (by omega) ⟨i + 1, by omega, rfl, rfl, rfl, by rw [e1, ← hy]; rfl, rfl, rfl, rfl⟩
  obtain rfl : i = h.ps.length := by omega
  obtain ⟨z, hz⟩ : ∃ z, z = ((h.bs.length : Int) + 1) ^ h.ps.length := ⟨_, rfl⟩
  rw [← hz]
  simp (disch := first | assumption | omega | (simp only [az]; done)) only [ru, eq_self, if_true, if_false, BEq.rfl, binI, AO.row?, splice, fillL, mmAll, loadV, storeV, zeros, Am.rowAt, Am.part, addOff, Nat.reduceAdd, Nat.reduceMul, Nat.reduceLeDiff, Nat.reduceSub, Nat.reduceLT, Int.reduceEq, Int.reduceLT, Int.reduceLE, Int.reduceGT, Int.reduceGE, Int.reduceAdd, Int.reduceSub, Int.reduceMul, Int.reduceNeg, Int.reduceToNat, reduceCtorEq, reduceIte, hlt, Bool.true_and, Bool.false_or]
theorem fin4 {lim i j k l : Nat} {P : AV → List AO → Prop} {ts : List AV} {h : List AO} : Done lim [.tmp i, .tmp j, .tmp k, .tmp l] P .ret ⟨ts, h, []⟩ = P (.tup [ts.getD i .undef, ts.getD j .undef, ts.getD k .undef, ts.getD l .undef]) h := by
  simp [Done, finish, takeMarks, getRes]
def ansB (e : Int) (a b c : Int) : AV := .tup [I (if e = 0 then a else 0), I (if e = 0 then b else 0), I (if e = 0 then c else 0), I e]
end
end Go.Proofs.YtfagcnokdnanpaaGreat.S
/-
The program's loads of barrels.
-/
namespace Go.Proofs.YtfagcnokdnanpaaGreat.S
open Go Go.Am Go.Proofs.YtfagcnokdnanpaaGreat.T
set_option maxRecDepth 100000
set_option linter.unusedSimpArgs false
set_option linter.unusedVariables false
def IvL (z : List AV) : Prop := ∀ y ∈ z, ∃ k i, y = .int k i
theorem iv_sc {z : List AV} (h : IvL z) : z.all AV.scalar = true := by
  rw [List.all_eq_true]; intro y hy; obtain ⟨k, i, rfl⟩ := h y hy; rfl
theorem iv_view {z : List AV} (h : IvL z) {st : Bool} {g : List AO} {n : Nat} : z.mapM (view st g n) = some z := mapM_view fun y hy => by
  obtain ⟨k, i, rfl⟩ := h y hy; exact view_int
theorem iv_pure {z : List AV} (h : IvL z) : AV.pureV.go z = true := by
  induction z with
  | nil => rfl
  | cons a z ih =>
    obtain ⟨k, i, e⟩ := h a (by simp)
    subst e
    rw [AV.pureV.go, ih fun y hy => h y (by simp [hy])]; rfl
theorem fl_get {k : Nat} : ∀ {L : List (List AV)} {i : Nat}, (∀ r ∈ L, r.length = k) → i < L.length → (L.flatten.drop (i * k)).take k = L.getD i []
  | [], i, _, h => by simp at h
  | a :: L, 0, hk, _ => by
    have := hk a (by simp)
    simp only [Nat.zero_mul, List.drop_zero, List.flatten_cons]
    rw [← this, List.take_left]; rfl
  | a :: L, i + 1, hk, h => by
    have ha := hk a (by simp)
    have ih := fl_get (k := k) (L := L) (i := i) (fun r hr => hk r (by simp [hr])) (by simpa using h)
    rw [List.flatten_cons, show (i + 1) * k = a.length + i * k by rw [Nat.succ_mul, ha]; omega, List.drop_append, List.drop_of_length_le (by omega), List.nil_append, show a.length + i * k - a.length = i * k by omega, ih]
    rfl
theorem fl_put {k : Nat} {x : List AV} (hx : x.length = k) : ∀ {L : List (List AV)} {i : Nat}, (∀ r ∈ L, r.length = k) → i < L.length → L.flatten.take (i * k) ++ (x ++ L.flatten.drop (i * k + k)) = (L.set i x).flatten
  | [], i, _, h => by simp at h
  | a :: L, 0, hk, _ => by
    have := hk a (by simp)
    simp only [Nat.zero_mul, List.take_zero, List.nil_append, Nat.zero_add, List.flatten_cons, List.set_cons_zero]
    rw [← this, List.drop_left]
  | a :: L, i + 1, hk, h => by
    have ha := hk a (by simp)
    have ih := fl_put hx (L := L) (i := i) (fun r hr => hk r (by simp [hr])) (by simpa using h)
    have e1 : (i + 1) * k = a.length + i * k := by rw [Nat.succ_mul, ha]; omega
    rw [List.flatten_cons, List.set_cons_succ, List.flatten_cons, ← ih, e1, Nat.add_assoc, List.take_append, List.drop_append, List.take_of_length_le (by omega), List.drop_of_length_le (by omega), List.append_assoc]
    rw [show a.length + i * k - a.length = i * k by omega, show a.length + (i * k + k) - a.length = i * k + k by omega, List.nil_append]
def ldc (ks : List Kd) (l : List Pr) : List AV := [I l.length, I (lbP l), I (stP ks l), I (dyP ks l)]
theorem ldc_iv {ks : List Kd} {l : List Pr} : IvL (ldc ks l) := by simp [IvL, ldc]
def r4 (F : Nat → List AV) : List AV := ((List.range 4).map F).flatten
def lds (h : Hs) (x : List Int) : List AV := r4 fun b => ldc h.ks (prs h.ps x b)
theorem r4_len {F : Nat → List AV} (hl : ∀ p, (F p).length = 4) : (r4 F).length = 16 := by
  simp only [r4, List.length_flatten, List.map_map]
  rw [show List.map (List.length ∘ F) (List.range 4) = List.map (fun _ => 4) (List.range 4) from List.map_congr_left fun p _ => hl p]
  rfl
theorem r4_get {F : Nat → List AV} {i : Nat} (h : i < 4) (hl : ∀ p, (F p).length = 4) : ((r4 F).drop (i * 4)).take 4 = F i := by
  unfold r4
  rw [fl_get (by intro r hr; obtain ⟨p, _, rfl⟩ := List.mem_map.1 hr; exact hl p) (by simpa using h)]
  simp [List.getD_eq_getElem?_getD, h]
theorem r4_put {F F' : Nat → List AV} {i : Nat} (h : i < 4) (hl : ∀ p, (F p).length = 4) {x : List AV} (hx : x.length = 4) (he : ∀ p, F' p = if p = i then x else F p) : (r4 F).take (i * 4) ++ (x ++ (r4 F).drop (i * 4 + 4)) = r4 F' := by
  unfold r4
  rw [fl_put hx (by intro r hr; obtain ⟨p, _, rfl⟩ := List.mem_map.1 hr; exact hl p) (by simpa using h)]
  congr 1
  refine List.ext_getElem (by simp) fun k h1 h2 => ?_
  simp only [List.getElem_set, List.getElem_map, List.getElem_range, he]
  by_cases e : i = k
  · subst e; simp
  · rw [if_neg e, if_neg (fun h => e h.symm)]
theorem r4_iv {F : Nat → List AV} (h : ∀ p, IvL (F p)) : IvL (r4 F) := by
  intro y hy
  simp only [r4, List.mem_flatten, List.mem_map] at hy
  obtain ⟨_, ⟨p, _, rfl⟩, hy⟩ := hy
  exact h p y hy
section
variable {h : Hs} {k p b : AV}
theorem lds_len {x : List Int} : (lds h x).length = 16 := r4_len fun _ => rfl
theorem lds_iv {x : List Int} : IvL (lds h x) := r4_iv fun _ => ldc_iv
theorem lds_get {x : List Int} {i : Nat} (hi : i < 4) : ((lds h x).drop (i * 4)).take 4 = ldc h.ks (prs h.ps x i) := r4_get hi fun _ => rfl
theorem lds_put {x : List Int} {i : Nat} (hi : i < 4) (hx : x.length < h.ps.length) : (lds h x).take (i * 4) ++ (ldc h.ks (prs h.ps (x ++ [(i : Int)]) i) ++ (lds h x).drop (i * 4 + 4)) = lds h (x ++ [(i : Int)]) := by
  refine r4_put hi (fun _ => rfl) rfl fun q => ?_
  by_cases e : q = i
  · subst e; rw [if_pos rfl]
  · rw [if_neg e, prs_snoc hx, if_neg (by omega), List.append_nil]
theorem lds_nil : lds h [] = List.replicate 16 (I 0) := by
  simp only [lds, r4, prs, List.zip_nil_right, List.filter_nil, List.map_nil]
  rfl
set_option maxHeartbeats 2000000 in
theorem s69 (H : HsOk h k p b) (G : HG h) {l0 : List Pr} (P0 : PG l0) (hl0 : l0.length ≤ 1000) {l : List Int} {v : AV} (V : IsSl 1 intL l v) (hl : l.length ≤ 1000) (L : InP h l) (st : Bool) :
    Iso E 150 [hsV h.fl k p b, .agg (ldc h.ks l0), v] st = some (.agg (ldc h.ks (l0 ++ h.pts l))) := by
  refine Iso_of (es _ _ _ _) e150 ?_
  simp only [f150, hsV, ldc]
  simp (disch := first | assumption | omega | (simp only [az]; done)) only [ru, eq_self, if_true, if_false, BEq.rfl, binI, AO.row?, splice, fillL, mmAll, loadV, storeV, zeros, Am.rowAt, Am.part, addOff, Nat.reduceAdd, Nat.reduceMul, Nat.reduceLeDiff, Nat.reduceSub, Nat.reduceLT, Int.reduceEq, Int.reduceLT, Int.reduceLE, Int.reduceGT, Int.reduceGE, Int.reduceAdd, Int.reduceSub, Int.reduceMul, Int.reduceNeg, Int.reduceToNat, reduceCtorEq, reduceIte, lenV_sl H.k, lenV_sl H.p, lenV_sl H.b, elem_kd H.k, elem_pr H.p, elem_in H.b, view_sl H.k, view_sl H.p, view_sl H.b, scalar_sl H.k, scalar_sl H.p, scalar_sl H.b, cells_sl H.k, cells_sl H.p, cells_sl H.b, pure_sl H.k, pure_sl H.p, pure_sl H.b, Int.toNat_natCast, lenV_sl V, elem_in V, view_sl V, scalar_sl V, cells_sl V, pure_sl V, Int.toNat_natCast]
  refine G_loop_ind (fun m ts hh mk => ∃ (i : Nat) (J : List AO) (cc : List AV), i ≤ l.length ∧ m = l.length - i ∧ ts.length = 52 ∧ ts.getD 2 .undef = v ∧ ts.getD 3 .undef = .ptr 0 0 ∧ ts.getD 4 .undef = .ptr 1 0 ∧ ts.getD 6 .undef = .ptr 2 0 ∧ ts.getD 11 .undef = v ∧ ts.getD 12 .undef = I l.length ∧ ts.getD 13 .undef = I i ∧
      hh = .cells [k, I h.fl, p, b] false :: .cells cc false :: .cells [I 0, I 0, I 0, I 0] false :: J ∧ mk = [] ∧ cc = ldc h.ks (l0 ++ h.pts (l.take i))) ?_ _ _ _ _
    ⟨0, [], _, Nat.zero_le _, rfl, rfl, rfl, rfl, rfl, rfl, rfl, rfl, rfl, rfl, rfl, by rw [List.take_zero, show h.pts [] = [] from rfl, List.append_nil]; rfl⟩
  rintro m ts hh mk ih ⟨i, J, cc, hi', rfl, hl', q2, q3, q4, q6, q11, q12, q13, rfl, rfl, rfl⟩
  rw [lit_all hl']
  simp only [lit0, litS, Nat.reduceAdd, q2, q3, q4, q6, q11, q12, q13]
  simp (disch := first | assumption | omega | (simp only [az]; done)) only [ru, eq_self, if_true, if_false, BEq.rfl, binI, AO.row?, splice, fillL, mmAll, loadV, storeV, zeros, Am.rowAt, Am.part, addOff, Nat.reduceAdd, Nat.reduceMul, Nat.reduceLeDiff, Nat.reduceSub, Nat.reduceLT, Int.reduceEq, Int.reduceLT, Int.reduceLE, Int.reduceGT, Int.reduceGE, Int.reduceAdd, Int.reduceSub, Int.reduceMul, Int.reduceNeg, Int.reduceToNat, reduceCtorEq, reduceIte, lenV_sl V, elem_in V, view_sl V, scalar_sl V, cells_sl V, pure_sl V, Int.toNat_natCast]
  by_cases hlt : (i : Int) < l.length
  case pos =>
    have hi2 : i < l.length := by omega
    have hx := L i hi2
    have hk := inP_k G L hi2
    have PX : PG (l0 ++ h.pts (l.take (i + 1))) := by
      intro q hq
      rcases List.mem_append.1 hq with hq | hq
      · exact P0 q hq
      · exact pts_pg G _ q hq
    have PY : PG (l0 ++ h.pts (l.take i)) := by
      intro q hq
      rcases List.mem_append.1 hq with hq | hq
      · exact P0 q hq
      · exact pts_pg G _ q hq
    obtain ⟨x, ex⟩ : ∃ x, x = l.getD i 0 := ⟨_, rfl⟩
    have et : l0 ++ h.pts (l.take (i + 1)) = l0 ++ h.pts (l.take i) ++ [h.ps.getD x.toNat default] := by
      rw [take_snoc (d := 0) hi2, pts_snoc, ← ex, List.append_assoc]
    have tl := List.length_take_of_le (show i ≤ l.length by omega)
    have b1 := lb_bd PY
    have b3 := lb_bd PX
    have bl : (l0 ++ h.pts (l.take i)).length = l0.length + i := by rw [List.length_append, pts_len, tl]
    rw [et, lbP_snoc, List.length_append, bl, List.length_singleton] at b3
    have en : (l0 ++ h.pts (l.take (i + 1))).length = (l0 ++ h.pts (l.take i)).length + 1 := by rw [et, List.length_append]; rfl
    have e1 : lbP (l0 ++ h.pts (l.take (i + 1))) = lbP (l0 ++ h.pts (l.take i)) + (h.ps.getD x.toNat default).p := by rw [et, lbP_snoc]
    have e2 : stP h.ks (l0 ++ h.pts (l.take (i + 1))) = mx (stP h.ks (l0 ++ h.pts (l.take i))) (kdP h.ks (h.ps.getD x.toNat default)).s := by rw [et, stP_snoc]
    have e3 : dyP h.ks (l0 ++ h.pts (l.take (i + 1))) = mx (dyP h.ks (l0 ++ h.pts (l.take i))) (kdP h.ks (h.ps.getD x.toNat default)).d := by rw [et, dyP_snoc]
    rw [← ex] at hx hk
    have eg : ldc h.ks (l0 ++ h.pts (l.take (i + 1))) = [I (l0 ++ h.pts (l.take (i + 1))).length, I (lbP (l0 ++ h.pts (l.take (i + 1)))), I (stP h.ks (l0 ++ h.pts (l.take (i + 1)))), I (dyP h.ks (l0 ++ h.pts (l.take (i + 1))))] := rfl
    rw [en, e1, e2, e3] at eg
    simp only [ldc]
    obtain ⟨n, hn⟩ : ∃ n, n = (l0 ++ h.pts (l.take i)).length := ⟨_, rfl⟩
    obtain ⟨z, hz⟩ : ∃ z, z = lbP (l0 ++ h.pts (l.take i)) := ⟨_, rfl⟩
    obtain ⟨u, hu⟩ : ∃ u, u = stP h.ks (l0 ++ h.pts (l.take i)) := ⟨_, rfl⟩
    obtain ⟨w, hw⟩ : ∃ w, w = dyP h.ks (l0 ++ h.pts (l.take i)) := ⟨_, rfl⟩
    obtain ⟨y, hy⟩ : ∃ y, y = h.ps.getD x.toNat default := ⟨_, rfl⟩
    rw [← hy] at hk
    rw [← hz, ← hy] at b3
    rw [← hz, ← hn] at b1
    rw [← hn] at bl
    rw [← hz, ← hn, ← hu, ← hw, ← hy] at eg
    rw [← hz, ← hn, ← hu, ← hw]
    obtain ⟨c, hc⟩ : ∃ c, c = kdP h.ks y := ⟨_, rfl⟩
    have hc' : h.ks.getD y.k.toNat default = c := hc.symm
    rw [← hc] at eg
    have x0 := hx.1; have x1 := hx.2
    have k0 := hk.1; have k1 := hk.2
    simp (disch := first | assumption | omega | (simp only [az]; done)) only [ru, eq_self, if_true, if_false, BEq.rfl, binI, AO.row?, splice, fillL, mmAll, loadV, storeV, zeros, Am.rowAt, Am.part, addOff, Nat.reduceAdd, Nat.reduceMul, Nat.reduceLeDiff, Nat.reduceSub, Nat.reduceLT, Int.reduceEq, Int.reduceLT, Int.reduceLE, Int.reduceGT, Int.reduceGE, Int.reduceAdd, Int.reduceSub, Int.reduceMul, Int.reduceNeg, Int.reduceToNat, reduceCtorEq, reduceIte, lenV_sl H.k, lenV_sl H.p, lenV_sl H.b, elem_kd H.k, elem_pr H.p, elem_in H.b, view_sl H.k, view_sl H.p, view_sl H.b, scalar_sl H.k, scalar_sl H.p, scalar_sl H.b, cells_sl H.k, cells_sl H.p, cells_sl H.b, pure_sl H.k, pure_sl H.p, pure_sl H.b, Int.toNat_natCast, lenV_sl V, elem_in V, view_sl V, scalar_sl V, cells_sl V, pure_sl V, Int.toNat_natCast, hlt, ← ex, x0, x1, ← hy, k0, k1, hc']
    exact ih (l.length - (i + 1)) _ _ _ (by omega) ⟨i + 1, _, _, by omega, rfl, rfl, rfl, rfl, rfl, rfl, rfl, rfl, rfl, rfl, rfl, by rw [eg]; rfl⟩
  obtain rfl : i = l.length := by omega
  rw [List.take_length]
  simp only [ldc]
  simp (disch := first | assumption | omega | (simp only [az]; done)) only [ru, eq_self, if_true, if_false, BEq.rfl, binI, AO.row?, splice, fillL, mmAll, loadV, storeV, zeros, Am.rowAt, Am.part, addOff, Nat.reduceAdd, Nat.reduceMul, Nat.reduceLeDiff, Nat.reduceSub, Nat.reduceLT, Int.reduceEq, Int.reduceLT, Int.reduceLE, Int.reduceGT, Int.reduceGE, Int.reduceAdd, Int.reduceSub, Int.reduceMul, Int.reduceNeg, Int.reduceToNat, reduceCtorEq, reduceIte, hlt, finC, getRes, Option.some.injEq, exists_eq_left']
theorem s68 (H : HsOk h k p b) (G : HG h) {l : List Pr} (P : PG l) (hl : l.length ≤ 1000) (st : Bool) : Iso E 136 [hsV h.fl k p b, .agg (ldc h.ks l)] st = some (I (slP h.ks h.fl l)) := by
  refine Iso_of (es _ _ _ _) e136 ?_
  simp only [f136, hsV, ldc, slP]
  by_cases h0 : l.length = 0
  · have h0' : (l.length : Int) = 0 := by omega
    simp (disch := first | assumption | omega | (simp only [az]; done)) only [ru, eq_self, if_true, if_false, BEq.rfl, binI, AO.row?, splice, fillL, mmAll, loadV, storeV, zeros, Am.rowAt, Am.part, addOff, Nat.reduceAdd, Nat.reduceMul, Nat.reduceLeDiff, Nat.reduceSub, Nat.reduceLT, Int.reduceEq, Int.reduceLT, Int.reduceLE, Int.reduceGT, Int.reduceGE, Int.reduceAdd, Int.reduceSub, Int.reduceMul, Int.reduceNeg, Int.reduceToNat, reduceCtorEq, reduceIte, lenV_sl H.k, lenV_sl H.p, lenV_sl H.b, elem_kd H.k, elem_pr H.p, elem_in H.b, view_sl H.k, view_sl H.p, view_sl H.b, scalar_sl H.k, scalar_sl H.p, scalar_sl H.b, cells_sl H.k, cells_sl H.p, cells_sl H.b, pure_sl H.k, pure_sl H.p, pure_sl H.b, Int.toNat_natCast, h0, h0', decide_true]
    done
  have h0' : ¬ (l.length : Int) = 0 := by omega
  have b1 := lb_bd P
  have b2 := st_bd G.g l
  have b3 : lbP l * stP h.ks l ≤ (40 * l.length) * 9 := Int.mul_le_mul b1.2 b2.2 b2.1 (by omega)
  have b4 : 0 ≤ lbP l * stP h.ks l := Int.mul_nonneg b1.1 b2.1
  have b5 := G.g.f
  obtain ⟨z, hz⟩ : ∃ z, z = lbP l * stP h.ks l := ⟨_, rfl⟩
  have e5 : (z + 9).tdiv 10 = (z + 9) / 10 := Int.tdiv_eq_ediv_of_nonneg (by omega)
  rw [← hz] at b3 b4
  simp (disch := first | assumption | omega | (simp only [az]; done)) only [ru, eq_self, if_true, if_false, BEq.rfl, binI, AO.row?, splice, fillL, mmAll, loadV, storeV, zeros, Am.rowAt, Am.part, addOff, Nat.reduceAdd, Nat.reduceMul, Nat.reduceLeDiff, Nat.reduceSub, Nat.reduceLT, Int.reduceEq, Int.reduceLT, Int.reduceLE, Int.reduceGT, Int.reduceGE, Int.reduceAdd, Int.reduceSub, Int.reduceMul, Int.reduceNeg, Int.reduceToNat, reduceCtorEq, reduceIte, lenV_sl H.k, lenV_sl H.p, lenV_sl H.b, elem_kd H.k, elem_pr H.p, elem_in H.b, view_sl H.k, view_sl H.p, view_sl H.b, scalar_sl H.k, scalar_sl H.p, scalar_sl H.b, cells_sl H.k, cells_sl H.p, cells_sl H.b, pure_sl H.k, pure_sl H.p, pure_sl H.b, Int.toNat_natCast, h0, h0', ← hz, e5, Int.reduceEq, decide_false]
theorem s111 (H : HsOk h k p b) (G : HG h) {l : List Pr} (P : PG l) (hl : l.length ≤ 1000) (st : Bool) : Iso E 151 [hsV h.fl k p b, .agg (ldc h.ks l)] st = some (I (ndP h.ks h.fl l)) := by
  have a := fun st => s68 H G P hl st
  simp only [hsV, ldc] at a
  have b1 := lb_bd P
  have b2 := sl_bd G.g P
  refine Iso_of (es _ _ _ _) e151 ?_
  simp only [f151, hsV, ldc, ndP]
  simp (disch := first | assumption | omega | (simp only [az]; done)) only [ru, eq_self, if_true, if_false, BEq.rfl, binI, AO.row?, splice, fillL, mmAll, loadV, storeV, zeros, Am.rowAt, Am.part, addOff, Nat.reduceAdd, Nat.reduceMul, Nat.reduceLeDiff, Nat.reduceSub, Nat.reduceLT, Int.reduceEq, Int.reduceLT, Int.reduceLE, Int.reduceGT, Int.reduceGE, Int.reduceAdd, Int.reduceSub, Int.reduceMul, Int.reduceNeg, Int.reduceToNat, reduceCtorEq, reduceIte, lenV_sl H.k, lenV_sl H.p, lenV_sl H.b, elem_kd H.k, elem_pr H.p, elem_in H.b, view_sl H.k, view_sl H.p, view_sl H.b, scalar_sl H.k, scalar_sl H.p, scalar_sl H.b, cells_sl H.k, cells_sl H.p, cells_sl H.b, pure_sl H.k, pure_sl H.p, pure_sl H.b, Int.toNat_natCast, a]
end
end Go.Proofs.YtfagcnokdnanpaaGreat.S
/-
The program: a part more, what a list lays down, what loads come to.
-/
namespace Go.Proofs.YtfagcnokdnanpaaGreat.S
open Go Go.Am Go.Proofs.YtfagcnokdnanpaaGreat.T
set_option maxRecDepth 100000
set_option linter.unusedSimpArgs false
set_option linter.unusedVariables false
section
variable {h : Hs} {k p b : AV}
theorem prs_le (G : HG h) (x : List Int) (c : Int) : (prs h.ps x c).length ≤ 6 := Nat.le_trans prs_len G.np
set_option maxHeartbeats 2000000 in
theorem s97 (H : HsOk h k p b) (G : HG h) {x : List Int} (hx : x.length < h.ps.length) {c : Nat} (hc : c < h.bs.length) (st : Bool) :
    Iso E 140 [hsV h.fl k p b, .agg (lds h x), I x.length, I c] st = some (.tup [.agg (lds h (x ++ [(c : Int)])), Bo (decide (ndP h.ks h.fl (prs h.ps (x ++ [(c : Int)]) c) ≤ h.bs.getD c 0))]) := by
  have np := G.np; have nb := G.nb
  have L1 : InP h [(x.length : Int)] := by
    intro i hi
    have hi0 : i = 0 := by simp at hi; omega
    subst hi0
    show (0 : Int) ≤ (x.length : Int) ∧ (x.length : Int) < h.ps.length
    omega
  have a1 := fun st => s69 H G (G.pp x c) (by have := prs_le G x c; omega) (v := .cs 1 1 [I (x.length : Int)]) (l := [(x.length : Int)]) (.inl rfl) (by simp) L1 st
  have ep : prs h.ps x c ++ h.pts [(x.length : Int)] = prs h.ps (x ++ [(c : Int)]) c := by
    rw [prs_snoc hx, if_pos rfl]; rfl
  rw [ep] at a1
  have a2 := fun st => s111 H G (G.pp (x ++ [(c : Int)]) c) (by have := prs_le G (x ++ [(c : Int)]) c; omega) st
  have g0 := lds_get (h := h) (x := x) (i := c) (by omega)
  have g1 := lds_put (h := h) (x := x) (i := c) (by omega) hx
  have g2 := lds_get (h := h) (x := x ++ [(c : Int)]) (i := c) (by omega)
  have ll := lds_len (h := h) (x := x)
  have ll' := lds_len (h := h) (x := x ++ [(c : Int)])
  have iv := lds_iv (h := h) (x := x)
  have iv' := lds_iv (h := h) (x := x ++ [(c : Int)])
  simp only [hsV] at a1 a2
  obtain ⟨A, hA⟩ : ∃ A, A = ldc h.ks (prs h.ps x c) := ⟨_, rfl⟩
  obtain ⟨B, hB⟩ : ∃ B, B = ldc h.ks (prs h.ps (x ++ [(c : Int)]) c) := ⟨_, rfl⟩
  obtain ⟨Z, hZ⟩ : ∃ Z, Z = lds h x := ⟨_, rfl⟩
  obtain ⟨Y, hY⟩ : ∃ Y, Y = lds h (x ++ [(c : Int)]) := ⟨_, rfl⟩
  have Al : A.length = 4 := by rw [hA]; rfl
  have Bl : B.length = 4 := by rw [hB]; rfl
  have Ai : IvL A := by rw [hA]; exact ldc_iv
  have Bi : IvL B := by rw [hB]; exact ldc_iv
  rw [← hA, ← hB] at a1
  rw [← hB] at a2
  rw [← hZ, ← hA] at g0
  rw [← hZ, ← hY, ← hB] at g1
  rw [← hY, ← hB] at g2
  rw [← hZ] at ll iv
  rw [← hY] at ll' iv'
  rw [← hZ, ← hY]
  have tk : Y.take 16 = Y := List.take_of_length_le (by omega)
  have tkA : A.take 4 = A := List.take_of_length_le (by omega)
  obtain ⟨y, hy⟩ : ∃ y, y = h.bs.getD c 0 := ⟨_, rfl⟩
  obtain ⟨w, hw⟩ : ∃ w, w = ndP h.ks h.fl (prs h.ps (x ++ [(c : Int)]) c) := ⟨_, rfl⟩
  rw [← hw] at a2
  rw [← hy, ← hw]
  have c0 : (0 : Int) ≤ c := by omega
  have c4 : (c : Int) < 4 := by omega
  have cb : (c : Int) < h.bs.length := by omega
  have fit : c * 4 + 4 ≤ 16 := by omega
  have n02 : ((0 : Nat) != 2) = true := rfl
  refine Iso_of (es _ _ _ _) e140 ?_
  simp only [f140, hsV]
  simp (disch := first | assumption | omega | (simp only [az]; done)) only [ru, eq_self, if_true, if_false, BEq.rfl, binI, AO.row?, splice, fillL, mmAll, loadV, storeV, zeros, Am.rowAt, Am.part, addOff, Nat.reduceAdd, Nat.reduceMul, Nat.reduceLeDiff, Nat.reduceSub, Nat.reduceLT, Int.reduceEq, Int.reduceLT, Int.reduceLE, Int.reduceGT, Int.reduceGE, Int.reduceAdd, Int.reduceSub, Int.reduceMul, Int.reduceNeg, Int.reduceToNat, reduceCtorEq, reduceIte, lenV_sl H.k, lenV_sl H.p, lenV_sl H.b, elem_kd H.k, elem_pr H.p, elem_in H.b, view_sl H.k, view_sl H.p, view_sl H.b, scalar_sl H.k, scalar_sl H.p, scalar_sl H.b, cells_sl H.k, cells_sl H.p, cells_sl H.b, pure_sl H.k, pure_sl H.p, pure_sl H.b, Int.toNat_natCast, rmr, exOp_litS, exOp_loadR, exOp_storeR, objIs, objNot, BEq.rfl, n02, c0, c4, cb, g0, Al, Bl, ll, ll', fit, iv_sc Bi, iv_sc iv', iv_view Ai, iv_view Bi, iv_view iv, iv_view iv', iv_pure Ai, iv_pure Bi, iv_pure iv', a1, g1, g2, tk, tkA, a2, ← hy, objNotA, List.all_cons, List.all_nil, finC2, getRes, Option.some.injEq, exists_eq_left', AV.pureV.go, AV.pureV, Bool.and_true, List.append_assoc]
theorem ft_snoc (G : HG h) {x : List Int} {c : Nat} (hx : x.length < h.ps.length) (hc : c < h.bs.length) (hf : h.ft x = true) : h.ft (x ++ [(c : Int)]) = decide (ndP h.ks h.fl (prs h.ps (x ++ [(c : Int)]) c) ≤ h.bs.getD c 0) := by
  rw [Bool.eq_iff_iff, Hs.ft_iff, decide_eq_true_eq]
  constructor
  · intro h1; exact h1 c hc
  · intro h1 d hd
    by_cases e : d = c
    · subst e; exact h1
    · rw [prs_snoc hx, if_neg (by omega), List.append_nil]
      exact Hs.ft_iff.1 hf d hd
theorem ft_nil (G : HG h) : h.ft [] = true := Hs.ft_iff.2 fun b hb => by
  have e : prs h.ps [] b = [] := by simp [prs]
  rw [e]
  exact (G.b b hb).1
theorem not_ft_take (G : HG h) {x : List Int} {i : Nat} (hn : h.ft (x.take i) = false) : h.ft x = false := by
  cases c : h.ft x with
  | false => rfl
  | true => rw [G.ft_take c] at hn; cases hn
set_option maxHeartbeats 4000000 in
theorem s72 (H : HsOk h k p b) (G : HG h) {x : List Int} {v : AV} (V : IsSl 1 intL x v) (hl : x.length ≤ 1000) : ∃ j, (h.isP x = true → j = x.length) ∧ ∀ st, Iso E 131 [hsV h.fl k p b, v] st = some (.tup [.agg (lds h (x.take j)), Bo (h.isP x)]) := by
  have np := G.np; have nb := G.nb
  suffices key : ∃ r h', R E (.fn 131) [hsV h.fl k p b, v] [] 0 = some (r, h') ∧ ∃ j, (h.isP x = true → j = x.length) ∧ r = .tup [.agg (lds h (x.take j)), Bo (h.isP x)] by
    obtain ⟨r, h', hr, j, h1, rfl⟩ := key
    refine ⟨j, h1, fun st => ?_⟩
    simp only [Iso, hr, view_tup, view_agg, List.mapM_cons, List.mapM_nil, iv_view lds_iv, view_bool]
    rfl
  have lz : [I 0, I 0, I 0, I 0, I 0, I 0, I 0, I 0, I 0, I 0, I 0, I 0, I 0, I 0, I 0, I 0] = lds h [] := by rw [lds_nil]; rfl
  refine R_of (fun r h' => ∃ j, (h.isP x = true → j = x.length) ∧ r = .tup [.agg (lds h (x.take j)), Bo (h.isP x)]) (es _ _ _ _) e131 ?_
  simp only [f131, hsV]
  have ll0 := lds_len (h := h) (x := [])
  have iv0 := lds_iv (h := h) (x := [])
  have tk0 : (lds h []).take 16 = lds h [] := List.take_of_length_le (by omega)
  have dr0 : (lds h []).drop 16 = [] := List.drop_of_length_le (by omega)
  by_cases h0 : x.length = h.ps.length
  case neg =>
    have h0' : ¬ (x.length : Int) = h.ps.length := by omega
    have ev : h.isP x = false := by simp only [Hs.isP]; rw [decide_eq_false h0]; rfl
    simp (disch := first | assumption | omega | (simp only [az]; done)) only [ru, eq_self, if_true, if_false, BEq.rfl, binI, AO.row?, splice, fillL, mmAll, loadV, storeV, zeros, Am.rowAt, Am.part, addOff, Nat.reduceAdd, Nat.reduceMul, Nat.reduceLeDiff, Nat.reduceSub, Nat.reduceLT, Int.reduceEq, Int.reduceLT, Int.reduceLE, Int.reduceGT, Int.reduceGE, Int.reduceAdd, Int.reduceSub, Int.reduceMul, Int.reduceNeg, Int.reduceToNat, reduceCtorEq, reduceIte, lenV_sl H.k, lenV_sl H.p, lenV_sl H.b, elem_kd H.k, elem_pr H.p, elem_in H.b, view_sl H.k, view_sl H.p, view_sl H.b, scalar_sl H.k, scalar_sl H.p, scalar_sl H.b, cells_sl H.k, cells_sl H.p, cells_sl H.b, pure_sl H.k, pure_sl H.p, pure_sl H.b, Int.toNat_natCast, lenV_sl V, elem_in V, view_sl V, scalar_sl V, cells_sl V, pure_sl V, Int.toNat_natCast, h0', lz, ll0, tk0, dr0, List.append_nil, iv_sc iv0, decide_false, Bool.not_false, finC2, getRes, Option.some.injEq, exists_eq_left']
    refine ⟨0, ?_, ?_⟩
    · intro e; rw [ev] at e; cases e
    · rw [ev]; rfl
  have h0' : (x.length : Int) = h.ps.length := by omega
  simp (disch := first | assumption | omega | (simp only [az]; done)) only [ru, eq_self, if_true, if_false, BEq.rfl, binI, AO.row?, splice, fillL, mmAll, loadV, storeV, zeros, Am.rowAt, Am.part, addOff, Nat.reduceAdd, Nat.reduceMul, Nat.reduceLeDiff, Nat.reduceSub, Nat.reduceLT, Int.reduceEq, Int.reduceLT, Int.reduceLE, Int.reduceGT, Int.reduceGE, Int.reduceAdd, Int.reduceSub, Int.reduceMul, Int.reduceNeg, Int.reduceToNat, reduceCtorEq, reduceIte, lenV_sl H.k, lenV_sl H.p, lenV_sl H.b, elem_kd H.k, elem_pr H.p, elem_in H.b, view_sl H.k, view_sl H.p, view_sl H.b, scalar_sl H.k, scalar_sl H.p, scalar_sl H.b, cells_sl H.k, cells_sl H.p, cells_sl H.b, pure_sl H.k, pure_sl H.p, pure_sl H.b, Int.toNat_natCast, lenV_sl V, elem_in V, view_sl V, scalar_sl V, cells_sl V, pure_sl V, Int.toNat_natCast, h0', lz, ll0, tk0, dr0, List.append_nil, iv_sc iv0, decide_true, Bool.not_true]
  refine G_loop_ind (fun m ts hh mk => ∃ (i : Nat) (J : List AO) (Z : List AV), i ≤ x.length ∧ m = x.length - i ∧ (x.take i).all (fun c => inR c 0 (h.bs.length - 1)) = true ∧ h.ft (x.take i) = true ∧ ts.length = 44 ∧ ts.getD 1 .undef = v ∧ ts.getD 2 .undef = .ptr 0 0 ∧ ts.getD 4 .undef = .ptr 1 0 ∧ ts.getD 6 .undef = .ptr 2 0 ∧ ts.getD 18 .undef = v ∧ ts.getD 19 .undef = I x.length ∧ ts.getD 20 .undef = I i ∧
      hh = .cells [k, I h.fl, p, b] false :: .cells (lds h []) false :: .cells Z false :: J ∧ mk = [] ∧ Z = lds h (x.take i)) ?_ _ _ _ _
    ⟨0, [], _, Nat.zero_le _, rfl, rfl, ft_nil G, rfl, rfl, rfl, rfl, rfl, rfl, h0'.symm ▸ rfl, rfl, rfl, rfl, rfl⟩
  rintro m ts hh mk ih ⟨i, J, Z, hi', rfl, hall, hft, hl', q1, q2, q4, q6, q18, q19, q20, rfl, rfl, hZ⟩
  have Zl : Z.length = 16 := by rw [hZ]; exact lds_len
  have Zi : IvL Z := by rw [hZ]; exact lds_iv
  have tk : Z.take 16 = Z := List.take_of_length_le (by omega)
  have dr : Z.drop 16 = [] := List.drop_of_length_le (by omega)
  rw [lit_all hl']
  simp only [lit0, litS, Nat.reduceAdd, q1, q2, q4, q6, q18, q19, q20]
  simp (disch := first | assumption | omega | (simp only [az]; done)) only [ru, eq_self, if_true, if_false, BEq.rfl, binI, AO.row?, splice, fillL, mmAll, loadV, storeV, zeros, Am.rowAt, Am.part, addOff, Nat.reduceAdd, Nat.reduceMul, Nat.reduceLeDiff, Nat.reduceSub, Nat.reduceLT, Int.reduceEq, Int.reduceLT, Int.reduceLE, Int.reduceGT, Int.reduceGE, Int.reduceAdd, Int.reduceSub, Int.reduceMul, Int.reduceNeg, Int.reduceToNat, reduceCtorEq, reduceIte, lenV_sl V, elem_in V, view_sl V, scalar_sl V, cells_sl V, pure_sl V, Int.toNat_natCast]
  by_cases hlt : (i : Int) < x.length
  case neg =>
    obtain rfl : i = x.length := by omega
    rw [List.take_length] at hall hft hZ
    have ev : h.isP x = true := by simp only [Hs.isP, hall, hft, decide_eq_true h0, Bool.and_self]
    simp (disch := first | assumption | omega | (simp only [az]; done)) only [ru, eq_self, if_true, if_false, BEq.rfl, binI, AO.row?, splice, fillL, mmAll, loadV, storeV, zeros, Am.rowAt, Am.part, addOff, Nat.reduceAdd, Nat.reduceMul, Nat.reduceLeDiff, Nat.reduceSub, Nat.reduceLT, Int.reduceEq, Int.reduceLT, Int.reduceLE, Int.reduceGT, Int.reduceGE, Int.reduceAdd, Int.reduceSub, Int.reduceMul, Int.reduceNeg, Int.reduceToNat, reduceCtorEq, reduceIte, hlt, Zl, tk, dr, dr0, List.append_nil, ll0, iv_sc Zi, finC2, getRes, Option.some.injEq, exists_eq_left']
    refine ⟨x.length, fun _ => rfl, ?_⟩
    rw [ev, List.take_length, ← hZ]
  have hi2 : i < x.length := by omega
  have no := fun hp => all_not (p := fun c => inR c 0 (h.bs.length - 1)) hi2 rfl hp
  have nx := fun hp => all_upto_succ (p := fun c => inR c 0 (h.bs.length - 1)) hi2 rfl hall hp
  have a1 := fun n st => s73 H n st
  simp only [hsV] at a1
  have et := take_snoc (d := 0) hi2
  obtain ⟨y, hy⟩ : ∃ y, y = x.getD i 0 := ⟨_, rfl⟩
  have hd : x.getD i default = y := hy.symm
  rw [hd] at no nx
  rw [← hy] at et
  cases hc : inR y 0 (h.bs.length - 1)
  · have ev : h.isP x = false := by simp only [Hs.isP, no hc, Bool.and_false, Bool.false_and]
    simp (disch := first | assumption | omega | (simp only [az]; done)) only [ru, eq_self, if_true, if_false, BEq.rfl, binI, AO.row?, splice, fillL, mmAll, loadV, storeV, zeros, Am.rowAt, Am.part, addOff, Nat.reduceAdd, Nat.reduceMul, Nat.reduceLeDiff, Nat.reduceSub, Nat.reduceLT, Int.reduceEq, Int.reduceLT, Int.reduceLE, Int.reduceGT, Int.reduceGE, Int.reduceAdd, Int.reduceSub, Int.reduceMul, Int.reduceNeg, Int.reduceToNat, reduceCtorEq, reduceIte, lenV_sl H.k, lenV_sl H.p, lenV_sl H.b, elem_kd H.k, elem_pr H.p, elem_in H.b, view_sl H.k, view_sl H.p, view_sl H.b, scalar_sl H.k, scalar_sl H.p, scalar_sl H.b, cells_sl H.k, cells_sl H.p, cells_sl H.b, pure_sl H.k, pure_sl H.p, pure_sl H.b, Int.toNat_natCast, lenV_sl V, elem_in V, view_sl V, scalar_sl V, cells_sl V, pure_sl V, Int.toNat_natCast, hlt, ← hy, a1, hc, Zl, tk, dr, dr0, List.append_nil, ll0, iv_sc Zi, Bool.not_false, finC2, getRes, Option.some.injEq, exists_eq_left']
    refine ⟨i, ?_, ?_⟩
    · intro e; rw [ev] at e; cases e
    · rw [ev, ← hZ]
  have hcr := inR_iff.1 hc
  obtain ⟨c, rfl⟩ : ∃ c : Nat, y = c := ⟨y.toNat, by omega⟩
  have tl := List.length_take_of_le (show i ≤ x.length by omega)
  have a2 := fun st => s97 H G (x := x.take i) (by omega) (c := c) (by omega) st
  have ef := ft_snoc G (x := x.take i) (c := c) (by omega) (by omega) hft
  simp only [hsV] at a2
  rw [← ef, ← et, ← hZ, tl] at a2
  obtain ⟨Y, hY⟩ : ∃ Y, Y = lds h (x.take (i + 1)) := ⟨_, rfl⟩
  have Yl : Y.length = 16 := by rw [hY]; exact lds_len
  have Yi : IvL Y := by rw [hY]; exact lds_iv
  have tkY : Y.take 16 = Y := List.take_of_length_le (by omega)
  rw [← hY] at a2
  cases hf : h.ft (x.take (i + 1))
  · have ev : h.isP x = false := by simp only [Hs.isP, not_ft_take G hf, Bool.and_false]
    simp (disch := first | assumption | omega | (simp only [az]; done)) only [ru, eq_self, if_true, if_false, BEq.rfl, binI, AO.row?, splice, fillL, mmAll, loadV, storeV, zeros, Am.rowAt, Am.part, addOff, Nat.reduceAdd, Nat.reduceMul, Nat.reduceLeDiff, Nat.reduceSub, Nat.reduceLT, Int.reduceEq, Int.reduceLT, Int.reduceLE, Int.reduceGT, Int.reduceGE, Int.reduceAdd, Int.reduceSub, Int.reduceMul, Int.reduceNeg, Int.reduceToNat, reduceCtorEq, reduceIte, lenV_sl H.k, lenV_sl H.p, lenV_sl H.b, elem_kd H.k, elem_pr H.p, elem_in H.b, view_sl H.k, view_sl H.p, view_sl H.b, scalar_sl H.k, scalar_sl H.p, scalar_sl H.b, cells_sl H.k, cells_sl H.p, cells_sl H.b, pure_sl H.k, pure_sl H.p, pure_sl H.b, Int.toNat_natCast, lenV_sl V, elem_in V, view_sl V, scalar_sl V, cells_sl V, pure_sl V, Int.toNat_natCast, hlt, ← hy, a1, a2, hc, hf, Zl, tk, dr, dr0, List.append_nil, Yl, tkY, ll0, iv_sc Zi, iv_sc Yi, iv_view Zi, iv_pure Zi, Bool.not_false, Bool.not_true, finC2, getRes, Option.some.injEq, exists_eq_left']
    refine ⟨i, ?_, ?_⟩
    · intro e; rw [ev] at e; cases e
    · rw [ev, ← hZ]
  · simp (disch := first | assumption | omega | (simp only [az]; done)) only [ru, eq_self, if_true, if_false, BEq.rfl, binI, AO.row?, splice, fillL, mmAll, loadV, storeV, zeros, Am.rowAt, Am.part, addOff, Nat.reduceAdd, Nat.reduceMul, Nat.reduceLeDiff, Nat.reduceSub, Nat.reduceLT, Int.reduceEq, Int.reduceLT, Int.reduceLE, Int.reduceGT, Int.reduceGE, Int.reduceAdd, Int.reduceSub, Int.reduceMul, Int.reduceNeg, Int.reduceToNat, reduceCtorEq, reduceIte, lenV_sl H.k, lenV_sl H.p, lenV_sl H.b, elem_kd H.k, elem_pr H.p, elem_in H.b, view_sl H.k, view_sl H.p, view_sl H.b, scalar_sl H.k, scalar_sl H.p, scalar_sl H.b, cells_sl H.k, cells_sl H.p, cells_sl H.b, pure_sl H.k, pure_sl H.p, pure_sl H.b, Int.toNat_natCast, lenV_sl V, elem_in V, view_sl V, scalar_sl V, cells_sl V, pure_sl V, Int.toNat_natCast, hlt, ← hy, a1, a2, hc, hf, Zl, tk, dr, dr0, List.append_nil, Yl, tkY, ll0, iv_sc Zi, iv_sc Yi, iv_view Zi, iv_pure Zi, Bool.not_true]
    exact ih (x.length - (i + 1)) _ _ _ (by omega) ⟨i + 1, _, _, by omega, rfl, nx hc, hf, rfl, rfl, rfl, rfl, rfl, rfl, rfl, rfl, rfl, rfl, hY⟩
end
end Go.Proofs.YtfagcnokdnanpaaGreat.S
/-
The program: sums over the barrels, salts, packings that are asked for.
-/
namespace Go.Proofs.YtfagcnokdnanpaaGreat.S
open Go Go.Am Go.Proofs.YtfagcnokdnanpaaGreat.T
set_option maxRecDepth 100000
set_option linter.unusedSimpArgs false
set_option linter.unusedVariables false
section
variable {h : Hs} {k p b : AV}
theorem at2 {α : Type} {g : List α} {a b : α} : (g ++ [a] ++ [b])[g.length + 1]? = some b := by simp
theorem lds_rows (G : HG h) (x : List Int) : ∃ (Z : List AV) (n l s d : Nat → Int), Z = lds h x ∧ Z.length = 16 ∧ IvL Z ∧ (∀ c : Nat, n c = ((prs h.ps x c).length : Int)) ∧ (∀ c : Nat, l c = lbP (prs h.ps x c)) ∧ (∀ c : Nat, s c = stP h.ks (prs h.ps x c)) ∧ (∀ c : Nat, d c = dyP h.ks (prs h.ps x c)) ∧
    (∀ c, c < 4 → (Z.drop (c * 4)).take 4 = [I (n c), I (l c), I (s c), I (d c)]) := by
  refine ⟨_, fun c => ((prs h.ps x c).length : Int), fun c => lbP (prs h.ps x c), fun c => stP h.ks (prs h.ps x c), fun c => dyP h.ks (prs h.ps x c), rfl, lds_len, lds_iv, fun _ => rfl, fun _ => rfl, fun _ => rfl, fun _ => rfl, fun c hc => ?_⟩
  rw [lds_get hc]; rfl
theorem s23 (H : HsOk h k p b) {x : List Int} {v : AV} (V : IsSl 1 intL x v) (hl : x.length ≤ 1000) (st : Bool) : Iso E 113 [hsV h.fl k p b, v] st = some (.tup [Bo (h.valid && h.isP x), I (vE h.valid)]) := by
  have a1 := fun st => s19 H st
  simp only [hsV] at a1
  refine Iso_of (es _ _ _ _) e113 ?_
  simp only [f113, hsV]
  cases hv : h.valid
  · simp (disch := first | assumption | omega | (simp only [az]; done)) only [ru, eq_self, if_true, if_false, BEq.rfl, binI, AO.row?, splice, fillL, mmAll, loadV, storeV, zeros, Am.rowAt, Am.part, addOff, Nat.reduceAdd, Nat.reduceMul, Nat.reduceLeDiff, Nat.reduceSub, Nat.reduceLT, Int.reduceEq, Int.reduceLT, Int.reduceLE, Int.reduceGT, Int.reduceGE, Int.reduceAdd, Int.reduceSub, Int.reduceMul, Int.reduceNeg, Int.reduceToNat, reduceCtorEq, reduceIte, lenV_sl H.k, lenV_sl H.p, lenV_sl H.b, elem_kd H.k, elem_pr H.p, elem_in H.b, view_sl H.k, view_sl H.p, view_sl H.b, scalar_sl H.k, scalar_sl H.p, scalar_sl H.b, cells_sl H.k, cells_sl H.p, cells_sl H.b, pure_sl H.k, pure_sl H.p, pure_sl H.b, Int.toNat_natCast, a1, hv, vE, if_false, Bool.false_eq_true, Bool.false_and]
  have G : HG h := valid_iff.1 hv
  obtain ⟨j, hj, a2⟩ := s72 H G V hl
  simp only [hsV] at a2
  obtain ⟨Z, hZ⟩ : ∃ Z, Z = lds h (x.take j) := ⟨_, rfl⟩
  have Zl : Z.length = 16 := by rw [hZ]; exact lds_len
  have Zi : IvL Z := by rw [hZ]; exact lds_iv
  have tk : Z.take 16 = Z := List.take_of_length_le (by omega)
  rw [← hZ] at a2
  simp (disch := first | assumption | omega | (simp only [az]; done)) only [ru, eq_self, if_true, if_false, BEq.rfl, binI, AO.row?, splice, fillL, mmAll, loadV, storeV, zeros, Am.rowAt, Am.part, addOff, Nat.reduceAdd, Nat.reduceMul, Nat.reduceLeDiff, Nat.reduceSub, Nat.reduceLT, Int.reduceEq, Int.reduceLT, Int.reduceLE, Int.reduceGT, Int.reduceGE, Int.reduceAdd, Int.reduceSub, Int.reduceMul, Int.reduceNeg, Int.reduceToNat, reduceCtorEq, reduceIte, lenV_sl H.k, lenV_sl H.p, lenV_sl H.b, elem_kd H.k, elem_pr H.p, elem_in H.b, view_sl H.k, view_sl H.p, view_sl H.b, scalar_sl H.k, scalar_sl H.p, scalar_sl H.b, cells_sl H.k, cells_sl H.p, cells_sl H.b, pure_sl H.k, pure_sl H.p, pure_sl H.b, Int.toNat_natCast, lenV_sl V, elem_in V, view_sl V, scalar_sl V, cells_sl V, pure_sl V, Int.toNat_natCast, a1, a2, hv, Zl, tk, iv_sc Zi, iv_view Zi, vE, if_true, Bool.true_and]
theorem s25 (H : HsOk h k p b) {x : List Int} {v : AV} (V : IsSl 1 intL x v) (hl : x.length ≤ 1000) (c : Int) (st : Bool) : Iso E 121 [hsV h.fl k p b, v, I c] st =
    some (ansB (askS h.valid (h.isP x && inR c 0 (h.bs.length - 1))) (lbP (prs h.ps x c)) (slP h.ks h.fl (prs h.ps x c)) (dyP h.ks (prs h.ps x c))) := by
  have a1 := fun st => s19 H st
  have a3 := fun n st => s73 H n st
  simp only [hsV] at a1 a3
  refine Iso_of (es _ _ _ _) e121 ?_
  simp only [f121, hsV, ansB]
  cases hv : h.valid
  · simp (disch := first | assumption | omega | (simp only [az]; done)) only [ru, eq_self, if_true, if_false, BEq.rfl, binI, AO.row?, splice, fillL, mmAll, loadV, storeV, zeros, Am.rowAt, Am.part, addOff, Nat.reduceAdd, Nat.reduceMul, Nat.reduceLeDiff, Nat.reduceSub, Nat.reduceLT, Int.reduceEq, Int.reduceLT, Int.reduceLE, Int.reduceGT, Int.reduceGE, Int.reduceAdd, Int.reduceSub, Int.reduceMul, Int.reduceNeg, Int.reduceToNat, reduceCtorEq, reduceIte, lenV_sl H.k, lenV_sl H.p, lenV_sl H.b, elem_kd H.k, elem_pr H.p, elem_in H.b, view_sl H.k, view_sl H.p, view_sl H.b, scalar_sl H.k, scalar_sl H.p, scalar_sl H.b, cells_sl H.k, cells_sl H.p, cells_sl H.b, pure_sl H.k, pure_sl H.p, pure_sl H.b, Int.toNat_natCast, a1, hv, vE, askS, if_false, Bool.false_eq_true, fin4]
  have G : HG h := valid_iff.1 hv
  have nb := G.nb
  obtain ⟨j, hj, a2⟩ := s72 H G V hl
  simp only [hsV] at a2
  cases hp : h.isP x
  · obtain ⟨Z, hZ⟩ : ∃ Z, Z = lds h (x.take j) := ⟨_, rfl⟩
    have Zl : Z.length = 16 := by rw [hZ]; exact lds_len
    have Zi : IvL Z := by rw [hZ]; exact lds_iv
    have tk : Z.take 16 = Z := List.take_of_length_le (by omega)
    rw [← hZ, hp] at a2
    simp (disch := first | assumption | omega | (simp only [az]; done)) only [ru, eq_self, if_true, if_false, BEq.rfl, binI, AO.row?, splice, fillL, mmAll, loadV, storeV, zeros, Am.rowAt, Am.part, addOff, Nat.reduceAdd, Nat.reduceMul, Nat.reduceLeDiff, Nat.reduceSub, Nat.reduceLT, Int.reduceEq, Int.reduceLT, Int.reduceLE, Int.reduceGT, Int.reduceGE, Int.reduceAdd, Int.reduceSub, Int.reduceMul, Int.reduceNeg, Int.reduceToNat, reduceCtorEq, reduceIte, lenV_sl H.k, lenV_sl H.p, lenV_sl H.b, elem_kd H.k, elem_pr H.p, elem_in H.b, view_sl H.k, view_sl H.p, view_sl H.b, scalar_sl H.k, scalar_sl H.p, scalar_sl H.b, cells_sl H.k, cells_sl H.p, cells_sl H.b, pure_sl H.k, pure_sl H.p, pure_sl H.b, Int.toNat_natCast, lenV_sl V, elem_in V, view_sl V, scalar_sl V, cells_sl V, pure_sl V, Int.toNat_natCast, a1, a2, hv, Zl, tk, gUn, iv_sc Zi, iv_view Zi, vE, askS, if_true, if_false, Bool.false_and, Bool.false_eq_true, Bool.not_false, fin4]
  obtain rfl := hj hp
  rw [List.take_length, hp] at a2
  cases hc : inR c 0 (h.bs.length - 1)
  · obtain ⟨Z, hZ⟩ : ∃ Z, Z = lds h x := ⟨_, rfl⟩
    have Zl : Z.length = 16 := by rw [hZ]; exact lds_len
    have Zi : IvL Z := by rw [hZ]; exact lds_iv
    have tk : Z.take 16 = Z := List.take_of_length_le (by omega)
    rw [← hZ] at a2
    simp (disch := first | assumption | omega | (simp only [az]; done)) only [ru, eq_self, if_true, if_false, BEq.rfl, binI, AO.row?, splice, fillL, mmAll, loadV, storeV, zeros, Am.rowAt, Am.part, addOff, Nat.reduceAdd, Nat.reduceMul, Nat.reduceLeDiff, Nat.reduceSub, Nat.reduceLT, Int.reduceEq, Int.reduceLT, Int.reduceLE, Int.reduceGT, Int.reduceGE, Int.reduceAdd, Int.reduceSub, Int.reduceMul, Int.reduceNeg, Int.reduceToNat, reduceCtorEq, reduceIte, lenV_sl H.k, lenV_sl H.p, lenV_sl H.b, elem_kd H.k, elem_pr H.p, elem_in H.b, view_sl H.k, view_sl H.p, view_sl H.b, scalar_sl H.k, scalar_sl H.p, scalar_sl H.b, cells_sl H.k, cells_sl H.p, cells_sl H.b, pure_sl H.k, pure_sl H.p, pure_sl H.b, Int.toNat_natCast, lenV_sl V, elem_in V, view_sl V, scalar_sl V, cells_sl V, pure_sl V, Int.toNat_natCast, a1, a2, a3, hc, hv, Zl, tk, gUn, iv_sc Zi, iv_view Zi, vE, askS, if_true, if_false, Bool.true_and, Bool.false_eq_true, Bool.not_false, Bool.not_true, fin4]
  have hcr := inR_iff.1 hc
  obtain ⟨c, rfl⟩ : ∃ d : Nat, c = d := ⟨c.toNat, by omega⟩
  obtain ⟨Z, n, l, s, d, hZ, Zl, Zi, en, el, es', ed, er⟩ := lds_rows G x
  have a4 := fun st => s68 H G (G.pp x c) (by have := prs_le G x c; omega) st
  simp only [hsV, ldc] at a4
  have er := er c (by omega)
  rw [← en, ← el, ← es', ← ed] at a4
  rw [← el, ← ed]
  rw [← hZ] at a2
  have tk : Z.take 16 = Z := List.take_of_length_le (by omega)
  have c0 : (0 : Int) ≤ c := by omega
  have c4 : (c : Int) < 4 := by omega
  simp (disch := first | assumption | omega | (simp only [az]; done)) only [ru, eq_self, if_true, if_false, BEq.rfl, binI, AO.row?, splice, fillL, mmAll, loadV, storeV, zeros, Am.rowAt, Am.part, addOff, Nat.reduceAdd, Nat.reduceMul, Nat.reduceLeDiff, Nat.reduceSub, Nat.reduceLT, Int.reduceEq, Int.reduceLT, Int.reduceLE, Int.reduceGT, Int.reduceGE, Int.reduceAdd, Int.reduceSub, Int.reduceMul, Int.reduceNeg, Int.reduceToNat, reduceCtorEq, reduceIte, lenV_sl H.k, lenV_sl H.p, lenV_sl H.b, elem_kd H.k, elem_pr H.p, elem_in H.b, view_sl H.k, view_sl H.p, view_sl H.b, scalar_sl H.k, scalar_sl H.p, scalar_sl H.b, cells_sl H.k, cells_sl H.p, cells_sl H.b, pure_sl H.k, pure_sl H.p, pure_sl H.b, Int.toNat_natCast, lenV_sl V, elem_in V, view_sl V, scalar_sl V, cells_sl V, pure_sl V, Int.toNat_natCast, a1, a2, a3, a4, hc, hv, c0, c4, er, Zl, tk, gUn, iv_sc Zi, iv_view Zi, vE, askS, if_true, if_false, Bool.true_and, Bool.false_eq_true, Bool.not_false, Bool.not_true, fin4]
end
end Go.Proofs.YtfagcnokdnanpaaGreat.S
/-
The program's packings: a range over a function that yields them all, in one list that is written in place.
-/
namespace Go.Proofs.YtfagcnokdnanpaaGreat.S
open Go Go.Am Go.Proofs.YtfagcnokdnanpaaGreat.T
set_option maxRecDepth 100000
set_option linter.unusedSimpArgs false
set_option linter.unusedVariables false
def Lq (n : Nat) (g : List AO) (q : Nat) (F : List Int) : Prop := ∃ C, g[q]? = some (.cells C false) ∧ C.length = n ∧ C.take F.length = F.flatMap intL
structure Lo (o : Nat) (g g' : List AO) : Prop where
  l : g.length ≤ g'.length
  k : ∀ j, j ≤ o → g'[j]? = g[j]?
structure Hi (o q : Nat) (g g' : List AO) : Prop where
  l : g.length ≤ g'.length
  k : ∀ j, o < j → j < g.length → j ≠ q → g'[j]? = g[j]?
theorem Hi.trans {o q : Nat} {a b c : List AO} (h : Hi o q a b) (h' : Hi o q b c) : Hi o q a c := ⟨Nat.le_trans h.l h'.l, fun j h1 h2 h3 => (h'.k j h1 (Nat.lt_of_lt_of_le h2 h.l) h3).trans (h.k j h1 h2 h3)⟩
theorem Hi.of {o q : Nat} {g g' : List AO} (h : Fr g g') : Hi o q g g' := ⟨h.l, fun j _ hj _ => h.k j hj⟩
theorem Hi.ofk {o q : Nat} {g g' : List AO} (h : Fk (o + 1) g g') : Hi o q g g' := ⟨h.l, fun j h1 h2 _ => h.k j h1 h2⟩
theorem Hi.at {o q : Nat} {g g' : List AO} (F : Hi o q g g') {j : Nat} (h1 : o < j) (h3 : j ≠ q) {x : AO} (hx : g[j]? = some x) : g'[j]? = some x := by rw [F.k j h1 (List.getElem?_eq_some_iff.1 hx).1 h3]; exact hx
theorem Lq.fr {n : Nat} {g g' : List AO} {q : Nat} {F : List Int} (L : Lq n g q F) (h : Fr g g') : Lq n g' q F := by
  obtain ⟨C, h1, h2, h3⟩ := L; exact ⟨C, h.at h1, h2, h3⟩
theorem Lq.fk {n o : Nat} {g g' : List AO} {q : Nat} {F : List Int} (L : Lq n g q F) (h : Fk (o + 1) g g') (ho : o < q) : Lq n g' q F := by
  obtain ⟨C, h1, h2, h3⟩ := L; exact ⟨C, h.at ho h1, h2, h3⟩
theorem Lq.init {n : Nat} {g : List AO} {q : Nat} {F : List Int} {c : Int} (L : Lq n g q (F ++ [c])) : Lq n g q F := by
  obtain ⟨C, h1, h2, h3⟩ := L
  refine ⟨C, h1, h2, ?_⟩
  have e : C.take F.length = (C.take (F ++ [c]).length).take F.length := by rw [List.take_take]; congr 1; simp
  have e2 : (F.flatMap intL).length = F.length := flat1 F
  rw [e, h3, List.flatMap_append, ← e2, List.take_left]
theorem Lq.lt {n : Nat} {g : List AO} {q : Nat} {F : List Int} (L : Lq n g q F) : q < g.length := by
  obtain ⟨C, h1, _, _⟩ := L; exact (List.getElem?_eq_some_iff.1 h1).1
theorem Lq.put {n lim : Nat} {g : List AO} {q : Nat} {F : List Int} (L : Lq n g q F) (hF : F.length < n) (hl : lim ≤ q) (c : Int) :
    ∃ g', wApp lim g 1 (.mr 1 q 0 F.length n) (.cs 1 1 [I c]) = some (.mr 1 q 0 (F.length + 1) n, g') ∧ g'.length = g.length ∧ (∀ j, j ≠ q → g'[j]? = g[j]?) ∧ Lq n g' q (F ++ [c]) := by
  obtain ⟨C, h1, h2, h3⟩ := L
  refine ⟨_, wApp_ok (n := 1) (xs := [I c]) (by omega) rfl rfl rfl (by omega) h1 (by simp; omega) hl rfl, by simp, fun j hj => List.getElem?_set_ne (Ne.symm hj), ?_⟩
  refine ⟨_, List.getElem?_set_self (List.getElem?_eq_some_iff.1 h1).1, ?_, ?_⟩
  · simp only [splice, List.length_append, List.length_take, List.length_drop, List.length_cons, List.length_nil]; omega
  · have e2 : (C.take (F.length * 1)).length = F.length := by rw [List.length_take]; omega
    have e4 : (C.take (F.length * 1) ++ ([I c] ++ C.drop (F.length * 1 + [I c].length))).take (F ++ [c]).length = C.take (F.length * 1) ++ [I c] := by
      rw [List.take_append, List.take_of_length_le (by simp; omega), e2]
      simp
    simp only [splice]
    first
    | rw [e4, Nat.mul_one, h3, List.flatMap_append]; rfl
    | rw [List.append_assoc, e4, Nat.mul_one, h3, List.flatMap_append]; rfl
theorem exOp_wAppM {call : Am.Callee} {lim : Nat} {pl : Option Nat} {ρ : Opd → AV} {h : List AO} {e r : Nat} {s x : Opd} : exOp call lim pl ρ h (.w (.app e s x (some r))) = match ρ s with
    | .mr e' o off len room => if objIsA o (ρ (.t r)) = true then wApp lim h e (.mr e' o off len room) (ρ x) else none
    | _ => none := by
  cases hs : ρ s with
  | mr e' o off len room =>
    simp only
    by_cases hr : objIsA o (ρ (.t r)) = true
    · rw [if_pos hr]
      simp only [exOp, wex, wApp, optIs, and_true, hs]
      cases lenOf (ρ x) <;> cases Am.rowOf h (ρ x) <;> first | rfl | simp only [hr, and_true]
    · rw [if_neg hr]
      simp only [exOp, wex, wApp, optIs, and_true, hs]
      cases lenOf (ρ x) <;> cases Am.rowOf h (ρ x) <;> first | rfl | simp only [hr, and_false, if_false, Bool.false_eq_true]
  | _ => simp only [exOp, wex, hs]
section
variable {h : Hs} {k p b : AV}
theorem enP_zero {ok : List Int → Bool} {cs : List Int} {d : Nat} {F : List Int} : enP ok cs d F 0 0 = [] := rfl
theorem ens_no {ok : List Int → Bool} {cs : List Int} {d : Nat} {F : List Int} (hn : ok F = false) : ens ok cs d F = [] := by
  cases d <;> simp [ens, hn]
theorem GO_smakeR {X : Cx} {base : Nat} {k : List KF} {ts : List AV} {h : List AO} {mk : List Nat} {r : List AOper} {d : Option Nat} {e eb s : Nat} {z : List AV} {l c : Opd} :
    GO X base (⟨d, .makeSlice true e eb z l c, none, some s, []⟩ :: r) k ts h mk = GX X base (match Opd.ev ts l, Opd.ev ts c with
    | .int _ l, .int _ c => if 0 ≤ l ∧ l ≤ c ∧ eb * c ≤ 140737488355328 ∧ 1 ≤ eb then some (.mr e (base + s) 0 l.toNat c.toNat, h.set (base + s) (.cells (zeros c.toNat z) false)) else none
    | _, _ => none) d r k ts mk := by
  rw [GO_slot]; rfl
theorem flat_rep {n : Nat} {a : AV} : (List.replicate n [a]).flatten = List.replicate n a := by
  induction n with
  | zero => rfl
  | succ n ih => rw [List.replicate_succ, List.flatten_cons, ih]; rfl
end
end Go.Proofs.YtfagcnokdnanpaaGreat.S
