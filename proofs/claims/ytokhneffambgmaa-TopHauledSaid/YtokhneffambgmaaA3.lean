/-
Functions of both sides of stage 5, one after another (A3).
-/
import Derived.Test.YtokhneffambgmaaA2

/-
Who is short, by the specification; copies of lists that are written to.
-/
namespace Go.Proofs.Ytokhneffambgmaa.A
open Go Go.Am Go.Proofs.Ytokhneffambgmaa.T
set_option maxRecDepth 100000
set_option linter.unusedSimpArgs false
set_option linter.unusedVariables false

section
variable {s : Sea} {p b : AV}
end

/-! calls that lay what they make behind the caller's heap -/
/-! a copy of a sea -/
/-- a sea that lies in new memory -/
structure CpH (s : Sea) (h : List AO) (op ob : Nat) (pv bv : AV) : Prop where
  ne : op ≠ ob
  ep : pv = .ms 2 op 0 s.pl.length
  eb : bv = .ms 2 ob 0 s.bo.length
  p : h[op]? = some (.cells (s.pl.flatMap Spn.e) false)
  b : h[ob]? = some (.cells (s.bo.flatMap Bt.e) false)
abbrev cpV (s : Sea) : AV := seaV s (slV 2 Spn.e s.pl) (slV 2 Bt.e s.bo)
theorem CpH.view {s : Sea} {h : List AO} {op ob : Nat} {pv bv : AV} (H : CpH s h op ob pv bv) (st : Bool) {n : Nat} : Am.view st h (n + 2) (seaV s pv bv) = some (cpV s) := by
  have h1 : Am.view st h (n + 1) pv = some (slV 2 Spn.e s.pl) := RdC.view (enc := Spn.e) ⟨op, H.ep, H.p⟩ Spn.el Spn.iv
  have h2 : Am.view st h (n + 1) bv = some (slV 2 Bt.e s.bo) := RdC.view (enc := Bt.e) ⟨ob, H.eb, H.b⟩ Bt.el Bt.iv
  show ([I s.w.lo, I s.w.hi, pv, bv].mapM (Am.view st h (n + 1))).map AV.agg = _
  simp only [List.mapM_cons, List.mapM_nil, view_int, h1, h2]
  rfl
theorem cpyQ {α : Type} {enc : α → List AV} {esz eb : Nat} {l : List α} {v : AV} {h J : List AO} {lim : Nat} (hv : IsSl esz enc l v) (he : ∀ a, (enc a).length = esz) (hs : ∀ a, (enc a).all AV.scalar = true) (hb : l.length * eb ≤ 140737488355328) (heb : 1 ≤ eb) (hlim : lim ≤ h.length) :
    ∃ q x0 x1, q < 2 ∧ appG true lim (h.length + 1) esz eb (h ++ .cells [] false :: .tomb :: J) (.ms esz h.length 0 0) v = some (.ms esz (h.length + q) 0 l.length, h ++ x0 :: x1 :: J) ∧ [x0, x1][q]? = some (.cells (l.flatMap enc) false) := by
  by_cases hz : l.length = 0
  · have e : l = [] := List.eq_nil_of_length_eq_zero hz
    subst e
    refine ⟨0, .cells [] false, .tomb, by omega, ?_, rfl⟩
    have hr : Am.rowOf (h ++ .cells [] false :: .tomb :: J) v = some [] := rowOf_sl hv _
    rw [appG_zero (sl := 0) rfl (lenOf_sl hv) hr]; rfl
  · refine ⟨1, .ro [], .cells (l.flatMap enc) false, by omega, ?_, rfl⟩
    rw [appG_ms (c := []) hz atA0 (by simp) (lenOf_sl hv) (rowOf_sl hv _) (flat_len he l) (scal_sl hs l) (by simpa using hb) heb hlim, setT0, setT]
    simp
set_option maxHeartbeats 2000000 in
theorem r40 {s : Sea} {p b : AV} (H : SeaOk s p b) : ∃ pv bv J op ob, R E (.fn 29) [seaV s p b] [] 0 = some (seaV s pv bv, J) ∧ CpH s J op ob pv bv := by
  have sp := H.sp; have sb := H.sb
  obtain ⟨q, x0, x1, hq, A, hx⟩ := cpyQ (eb := 16) (lim := 0) (h := [.cells [I s.w.lo, I s.w.hi, p, b] false, .cells [I 0, I 0, .nils, .nils] false]) (J := [.tomb, .tomb]) H.p Spn.el Spn.sc (by omega) (by omega) (Nat.zero_le _)
  obtain ⟨q', y0, y1, hq', A', hy⟩ := cpyQ (eb := 16) (lim := 0) (h := [.cells [I s.w.lo, I s.w.hi, p, b] false, .cells [I 0, I 0, .nils, .nils] false, x0, x1]) (J := []) H.b Bt.el Bt.sc (by omega) (by omega) (Nat.zero_le _)
  simp only [List.length_cons, List.length_nil, Nat.zero_add, Nat.reduceAdd, apC, apN] at A A'
  refine (fun x => ?_ : (∃ r h', R E (.fn 29) [seaV s p b] [] 0 = some (r, h') ∧ (r = seaV s (.ms 2 (2 + q) 0 s.pl.length) (.ms 2 (4 + q') 0 s.bo.length) ∧ CpH s h' (2 + q) (4 + q') (.ms 2 (2 + q) 0 s.pl.length) (.ms 2 (4 + q') 0 s.bo.length))) → _) (R_of _ (es _ _ _ _) e29 ?_)
  · obtain ⟨r, h', hr, rfl, hc⟩ := x; exact ⟨_, _, h', _, _, hr, hc⟩
  simp only [f29, seaV]
  simp (disch := first | assumption | omega | (simp only [az]; done)) only [ru, eq_self, if_true, if_false, BEq.rfl, binI, AO.row?, splice, fillL, mmAll, loadV, storeV, zeros, Am.rowAt, Am.part, addOff, Nat.reduceAdd, Nat.reduceMul, Nat.reduceLeDiff, Nat.reduceSub, Nat.reduceLT, Int.reduceEq, Int.reduceLT, Int.reduceLE, Int.reduceGT, Int.reduceGE, Int.reduceAdd, Int.reduceSub, Int.reduceMul, Int.reduceNeg, Int.reduceToNat, reduceCtorEq, reduceIte, lenV_sl H.p, lenV_sl H.b, elem_sp H.p, elem_bt H.b, view_sl H.p, view_sl H.b, scalar_sl H.p, scalar_sl H.b, cells_sl H.p, cells_sl H.b, pure_sl H.p, pure_sl H.b, Int.toNat_natCast, GO_mapp, unhN, unhC, A, A', finC, getRes, Option.some.injEq, exists_eq_left']
  refine ⟨by omega, rfl, rfl, ?_, ?_⟩
  · match q, hq with
    | 0, _ => simpa using hx
    | 1, _ => simpa using hx
  · match q', hq' with
    | 0, _ => simpa using hy
    | 1, _ => simpa using hy
theorem s40 {s : Sea} {p b : AV} (H : SeaOk s p b) (st : Bool) : Iso E 29 [seaV s p b] st = some (cpV s) := by
  obtain ⟨pv, bv, J, op, ob, hr, hc⟩ := r40 H
  simp only [Iso, hr]
  exact hc.view st
end Go.Proofs.Ytokhneffambgmaa.A

/-
The helpers of the laws.
-/
namespace Go.Proofs.Ytokhneffambgmaa.A
open Go Go.Am Go.Proofs.Ytokhneffambgmaa.T
set_option maxRecDepth 100000
set_option linter.unusedSimpArgs false
set_option linter.unusedVariables false

section
variable {s : Sea} {p b : AV}
def far (s : Sea) : Bool := decide (40 < s.pl.length) || decide (40 < s.bo.length)
theorem far_no {s : Sea} {p b : AV} (H : SeaIn s p b) (h : far s = false) : SeaOk s p b := by
  simp only [far, Bool.or_eq_false_iff, decide_eq_false_iff_not] at h
  exact ⟨H, by omega, by omega⟩
theorem valid_far (h : far s = true) : s.valid = false := by
  cases hv : s.valid
  · rfl
  · have K := (valid_good hv).1
    have := K.sp.le; have := K.nb
    simp only [far, Bool.or_eq_true, decide_eq_true_eq] at h
    omega
theorem s50 (H : SeaIn s p b) (st : Bool) : Iso E 5 [seaV s p b] st = some (Bo (far s)) := by
  refine Iso_of (es _ _ _ _) e5 ?_
  simp only [f5, seaV, far]
  by_cases h1 : 40 < s.pl.length
  · have h1' : (s.pl.length : Int) > 40 := by omega
    simp (disch := first | assumption | omega | (simp only [az]; done)) only [ru, eq_self, if_true, if_false, BEq.rfl, binI, AO.row?, splice, fillL, mmAll, loadV, storeV, zeros, Am.rowAt, Am.part, addOff, Nat.reduceAdd, Nat.reduceMul, Nat.reduceLeDiff, Nat.reduceSub, Nat.reduceLT, Int.reduceEq, Int.reduceLT, Int.reduceLE, Int.reduceGT, Int.reduceGE, Int.reduceAdd, Int.reduceSub, Int.reduceMul, Int.reduceNeg, Int.reduceToNat, reduceCtorEq, reduceIte, lenV_sl H.p, lenV_sl H.b, elem_sp H.p, elem_bt H.b, view_sl H.p, view_sl H.b, scalar_sl H.p, scalar_sl H.b, cells_sl H.p, cells_sl H.b, pure_sl H.p, pure_sl H.b, Int.toNat_natCast, h1', h1, gUn, decide_true, Bool.true_or]
  · have h1' : ¬ (s.pl.length : Int) > 40 := by omega
    by_cases h2 : 40 < s.bo.length
    · have h2' : (s.bo.length : Int) > 40 := by omega
      simp (disch := first | assumption | omega | (simp only [az]; done)) only [ru, eq_self, if_true, if_false, BEq.rfl, binI, AO.row?, splice, fillL, mmAll, loadV, storeV, zeros, Am.rowAt, Am.part, addOff, Nat.reduceAdd, Nat.reduceMul, Nat.reduceLeDiff, Nat.reduceSub, Nat.reduceLT, Int.reduceEq, Int.reduceLT, Int.reduceLE, Int.reduceGT, Int.reduceGE, Int.reduceAdd, Int.reduceSub, Int.reduceMul, Int.reduceNeg, Int.reduceToNat, reduceCtorEq, reduceIte, lenV_sl H.p, lenV_sl H.b, elem_sp H.p, elem_bt H.b, view_sl H.p, view_sl H.b, scalar_sl H.p, scalar_sl H.b, cells_sl H.p, cells_sl H.b, pure_sl H.p, pure_sl H.b, Int.toNat_natCast, h1', h1, h2, h2', gUn, decide_false, decide_true, Bool.false_or]
    · have h2' : ¬ (s.bo.length : Int) > 40 := by omega
      simp (disch := first | assumption | omega | (simp only [az]; done)) only [ru, eq_self, if_true, if_false, BEq.rfl, binI, AO.row?, splice, fillL, mmAll, loadV, storeV, zeros, Am.rowAt, Am.part, addOff, Nat.reduceAdd, Nat.reduceMul, Nat.reduceLeDiff, Nat.reduceSub, Nat.reduceLT, Int.reduceEq, Int.reduceLT, Int.reduceLE, Int.reduceGT, Int.reduceGE, Int.reduceAdd, Int.reduceSub, Int.reduceMul, Int.reduceNeg, Int.reduceToNat, reduceCtorEq, reduceIte, lenV_sl H.p, lenV_sl H.b, elem_sp H.p, elem_bt H.b, view_sl H.p, view_sl H.b, scalar_sl H.p, scalar_sl H.b, cells_sl H.p, cells_sl H.b, pure_sl H.p, pure_sl H.b, Int.toNat_natCast, h1', h1, h2, h2', gUn, decide_false, Bool.false_or]
end
end Go.Proofs.Ytokhneffambgmaa.A

/-
Two seas that differ in what the catch weighs.
-/
namespace Go.Proofs.Ytokhneffambgmaa.A
open Go Go.Am Go.Proofs.Ytokhneffambgmaa.T
set_option maxRecDepth 100000
set_option linter.unusedSimpArgs false
set_option linter.unusedVariables false

section
variable {s : Sea} {u v : Spn} {l : List Int}
theorem lft_w : ∀ {k : Nat}, lftU ⟨u, s.pl, s.bo⟩ l k = lftU ⟨v, s.pl, s.bo⟩ l k
  | 0 => rfl
  | k + 1 => by
    show mn (lftU ⟨u, s.pl, s.bo⟩ l k) _ = mn (lftU ⟨v, s.pl, s.bo⟩ l k) _
    rw [lft_w (k := k)]; rfl
theorem cst_w : ∀ {k : Nat}, cstU ⟨u, s.pl, s.bo⟩ l k = cstU ⟨v, s.pl, s.bo⟩ l k
  | 0 => rfl
  | k + 1 => by
    show cstU ⟨u, s.pl, s.bo⟩ l k + _ = cstU ⟨v, s.pl, s.bo⟩ l k + _
    rw [cst_w (k := k)]; rfl
theorem saf_w (K1 : SeaG ⟨u, s.pl, s.bo⟩) (K2 : SeaG ⟨v, s.pl, s.bo⟩) (h1 : u.lo ≤ v.lo) (h2 : v.hi ≤ u.hi) (hl : l.length = s.pl.length) : saf ⟨u, s.pl, s.bo⟩ l = 3 ∨ saf ⟨v, s.pl, s.bo⟩ l = saf ⟨u, s.pl, s.bo⟩ l := by
  have el : lft ⟨u, s.pl, s.bo⟩ l = lft ⟨v, s.pl, s.bo⟩ l := lft_w
  have w0 : 0 ≤ v.lo := K2.w0
  have w1 : v.lo ≤ v.hi := K2.w1
  have w2 : v.hi ≤ 2000 := K2.w2
  have w3 : 0 ≤ u.lo := K1.w0
  have up : canB ⟨v, s.pl, s.bo⟩ l = true → canB ⟨u, s.pl, s.bo⟩ l = true := fun h => by
    obtain ⟨G, hG, ho⟩ := (can_iff K2 hl).1 h
    refine (can_iff K1 hl).2 ⟨G, hG, ovr_no.2 fun i hi => ?_⟩
    have a := ovr_no.1 ho i hi
    have g := mem_pts.1 hG
    have gi : i < s.pl.length := by omega
    have g4 : (s.pl.getD i default).lo ≤ G.getD i 0 := ((InL_iff.1 g.1).2 i gi).1
    have g3 : 0 ≤ (s.pl.getD i default).lo := (K1.sp.at (p := i) gi).1
    have := Int.mul_le_mul_of_nonneg_right h1 (show 0 ≤ G.getD i 0 by omega)
    exact Int.le_trans this a
  have lo : v.hi ≤ lft ⟨v, s.pl, s.bo⟩ l → canB ⟨v, s.pl, s.bo⟩ l = true := fun h => by
    obtain ⟨G, hG⟩ := List.exists_mem_of_ne_nil _ (pts_ne K2.sp)
    exact (can_iff K2 hl).2 ⟨G, hG, (safe_iff K2 hl w0).2 ((le_lft K2 hl (by omega)).1 (by omega)) G hG⟩
  unfold saf
  simp only [el]
  obtain ⟨n, hn⟩ : ∃ n, n = lft ⟨v, s.pl, s.bo⟩ l := ⟨_, rfl⟩
  simp only [← hn] at lo ⊢
  by_cases c : u.hi ≤ n
  · right; rw [if_pos c, if_pos (by omega)]
  · cases cw : canB ⟨u, s.pl, s.bo⟩ l
    · right
      have cj : canB ⟨v, s.pl, s.bo⟩ l = false := by
        cases h : canB ⟨v, s.pl, s.bo⟩ l
        · rfl
        · rw [up h] at cw; cases cw
      rw [if_neg c, if_neg (fun h => by rw [lo h] at cj; cases cj), cj]
    · left; rw [if_neg c]; rfl
theorem saf_in : 1 ≤ saf s l ∧ saf s l ≤ 3 := by unfold saf; split; omega; split <;> omega
theorem crew_w (K1 : SeaG ⟨u, s.pl, s.bo⟩) (K2 : SeaG ⟨v, s.pl, s.bo⟩) (h2 : v.hi ≤ u.hi) {x : List Int} (hx : crew ⟨u, s.pl, s.bo⟩ = some x) : ∃ y, crew ⟨v, s.pl, s.bo⟩ = some y ∧ 0 ≤ cst ⟨v, s.pl, s.bo⟩ y ∧ cst ⟨v, s.pl, s.bo⟩ y ≤ cst ⟨u, s.pl, s.bo⟩ x := by
  obtain ⟨c1, c2, c3⟩ := crew_some hx
  have b := (better K1 K2 fun l hl => ⟨l, hl, fun h => by
    rw [fts_lft K1 hl.1] at h
    rw [fts_lft K2 hl.1]
    have el : lft ⟨u, s.pl, s.bo⟩ l = lft ⟨v, s.pl, s.bo⟩ l := lft_w
    rw [el] at h
    simp only [decide_eq_true_eq] at h ⊢
    exact Int.le_trans h2 h, Int.le_of_eq (cst_w (u := v) (v := u)), Int.le_of_eq lft_w⟩).1
  have e1 : chp ⟨u, s.pl, s.bo⟩ = cst ⟨u, s.pl, s.bo⟩ x := by simp only [chp, hx]
  have l1 := cst_le K1 c1.1
  cases hy : crew ⟨v, s.pl, s.bo⟩ with
  | none =>
    have e2 : chp ⟨v, s.pl, s.bo⟩ = 10000 := by simp only [chp, hy]
    omega
  | some y =>
    have e2 : chp ⟨v, s.pl, s.bo⟩ = cst ⟨v, s.pl, s.bo⟩ y := by simp only [chp, hy]
    obtain ⟨d1, d2, d3⟩ := crew_some hy
    have l2 := cst_le K2 d1.1
    exact ⟨y, rfl, l2.1, by omega⟩
end
end Go.Proofs.Ytokhneffambgmaa.A

