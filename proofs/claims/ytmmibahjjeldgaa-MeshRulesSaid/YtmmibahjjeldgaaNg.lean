/-
The law of the rule.
-/
import Derived.Test.YtmmibahjjeldgaaNe
namespace Go.Proofs.Ytmmibahjjeldgaa.S
open Go Go.Am Go.Proofs.Ytmmibahjjeldgaa.T
set_option maxRecDepth 100000
set_option linter.unusedSimpArgs false
set_option linter.unusedVariables false
attribute [local irreducible] Go.Am.G Go.Am.GO Go.Am.GG Go.Am.GC Go.Am.GP Go.Am.GX

def zer (x : Hl) : Hl := ⟨0, x.lo, x.hi, x.h⟩
/-- the first holes torn at the hour 0 -/
def zk (L : List Hl) : Nat → List Hl
  | 0 => L
  | k + 1 => (zk L k).set k (zer ((zk L k).getD k default))
theorem zk_len {L : List Hl} : ∀ {k : Nat}, (zk L k).length = L.length
  | 0 => rfl
  | k + 1 => by rw [zk, List.length_set, zk_len]
theorem zk_at {L : List Hl} : ∀ {k j : Nat}, k ≤ L.length → (zk L k).getD j default = if j < k then zer (L.getD j default) else L.getD j default
  | 0, j, _ => by rw [if_neg (by omega)]; rfl
  | k + 1, j, h => by
    have ih := fun j => zk_at (L := L) (k := k) (j := j) (by omega)
    rw [zk, ih k, if_neg (by omega)]
    rw [List.getD_eq_getElem?_getD, List.getElem?_set]
    by_cases c : k = j
    · subst c
      rw [if_pos rfl, if_pos (by rw [zk_len]; omega), if_pos (by omega)]; rfl
    · rw [if_neg c, ← List.getD_eq_getElem?_getD, ih j]
      by_cases d : j < k
      · rw [if_pos d, if_pos (by omega)]
      · rw [if_neg d, if_neg (by omega)]
def hrs (L : List Hl) : Nat → Int
  | 0 => 0
  | k + 1 => hrs L k + (if inR (L.getD k default).h 1 9 then (L.getD k default).h else 0)
theorem hrs_bd {L : List Hl} : ∀ {k : Nat}, 0 ≤ hrs L k ∧ hrs L k ≤ 9 * k
  | 0 => by simp [hrs]
  | k + 1 => by
    have ih := hrs_bd (L := L) (k := k)
    rw [hrs]
    split
    · rename_i h
      have := inR_iff.1 h
      omega
    · omega
theorem hrs_eq {L : List Hl} {f : Int → Int} : ∀ {k : Nat}, (∀ j, j < k → inR (L.getD j default).h 1 9 = true ∧ f j = (L.getD j default).h) → hrs L k = sm ((ofN (List.range k)).map f)
  | 0, _ => rfl
  | k + 1, h => by
    have h1 := h k (by omega)
    rw [hrs, hrs_eq fun j hj => h j (by omega), ofN_succ, map_snoc, if_pos h1.1, h1.2]
def Net.rul1 (n : Net) : Net := ⟨1, zk n.hs n.hs.length, []⟩
section
variable {n : Net} {g p : AV}
set_option maxHeartbeats 8000000 in
theorem s9 (H0 : NetIn n g p) (st : Bool) : Iso E 9 [netV n g p] st = some (Bo true) := by
  have g0 := fun st => s14 H0 (.inr ⟨rfl, rfl⟩ : IsSl 1 intL [] .nils) st
  simp only [netV] at g0
  cases hr : huge n []
  case true =>
    refine Iso_of (es _ _ _ _) e9 ?_
    simp only [f9, netV]
    simp (disch := first | assumption | omega | (simp only [az]; done)) only [ru, eq_self, if_true, if_false, BEq.rfl, binI, AO.row?, splice, fillL, mmAll, loadV, storeV, zeros, Am.rowAt, Am.part, addOff, Nat.reduceAdd, Nat.reduceMul, Nat.reduceLeDiff, Nat.reduceSub, Nat.reduceLT, Int.reduceEq, Int.reduceLT, Int.reduceLE, Int.reduceGT, Int.reduceGE, Int.reduceAdd, Int.reduceSub, Int.reduceMul, Int.reduceNeg, Int.reduceToNat, reduceCtorEq, reduceIte, lenV_sl H0.g, view_sl H0.g, scalar_sl H0.g, cells_sl H0.g, pure_sl H0.g, lenV_sl H0.p, view_sl H0.p, scalar_sl H0.p, cells_sl H0.p, pure_sl H0.p, g0, hr, s15]
  obtain ⟨H, _⟩ := huge_no H0 hr
  have sg : n.hs.length ≤ 40 := by
    simp only [huge, Bool.or_eq_false_iff, decide_eq_false_iff_not] at hr; omega
  obtain ⟨gv, pv, J, og, op, hC, hN, lg, lp⟩ := C16 H [.cells [I n.m, g, p] false]
  obtain ⟨HH, hHH⟩ : ∃ HH : List AO, HH = [.cells [I n.m, g, p] false] ++ J := ⟨_, rfl⟩
  rw [← hHH] at hC hN
  have lHH : HH.length = 1 + J.length := by rw [hHH]; simp; omega
  obtain ⟨oG, hoG⟩ : ∃ oG, oG = 1 + og := ⟨_, rfl⟩
  have eG : gv = .ms 4 oG 0 n.hs.length := by rw [hN.eg, hoG]; rfl
  have aG : HH[oG]? = some (.cells (n.hs.flatMap Hl.e) false) := by rw [hoG]; exact hN.g
  obtain ⟨oP, hoP⟩ : ∃ oP, oP = 1 + op := ⟨_, rfl⟩
  have eP : pv = .ms 2 oP 0 n.ps.length := by rw [hN.ep, hoP]; rfl
  subst eG eP
  obtain ⟨oN, hoN⟩ : ∃ oN, oN = HH.length := ⟨_, rfl⟩
  have atN : ∀ X : AO, (HH ++ [X])[oN]? = some X := fun X => by rw [hoN]; exact atE
  have stN : ∀ X Y : AO, (HH ++ [X]).set oN Y = HH ++ [Y] := fun X Y => by rw [hoN]; exact setE
  obtain ⟨h2, hh2⟩ : ∃ h2, h2 = HH ++ [AO.cells [I 1, .ms 4 oG 0 n.hs.length, .nils] false] := ⟨_, rfl⟩
  have l2 : h2.length = oN + 1 := by rw [hh2, hoN]; simp
  have uG : h2[oG]? = some (.cells (n.hs.flatMap Hl.e) false) := by rw [hh2, at_ap (by omega)]; exact aG
  have uN : h2[oN]? = some (.cells [I 1, .ms 4 oG 0 n.hs.length, .nils] false) := by rw [hh2, hoN]; exact atE
  have HR : NetIn n.rul1 (slV 4 Hl.e n.rul1.hs) .nils := ⟨slV_is, .inr ⟨rfl, rfl⟩⟩
  have c49 := fun st => s49' HR 5 st
  have el : n.rul1.hs.length = n.hs.length := zk_len
  obtain ⟨gc, hgc⟩ : ∃ q, q = slV 4 Hl.e n.rul1.hs := ⟨_, rfl⟩
  have em : n.rul1.m = 1 := rfl
  simp only [netV, ← hgc, em] at c49 hC
  refine Iso_of (es _ _ _ _) e9 ?_
  simp only [f9, netV]
  simp (disch := first | assumption | omega | (simp only [az]; done)) only [ru, eq_self, if_true, if_false, BEq.rfl, binI, AO.row?, splice, fillL, mmAll, loadV, storeV, zeros, Am.rowAt, Am.part, addOff, Nat.reduceAdd, Nat.reduceMul, Nat.reduceLeDiff, Nat.reduceSub, Nat.reduceLT, Int.reduceEq, Int.reduceLT, Int.reduceLE, Int.reduceGT, Int.reduceGE, Int.reduceAdd, Int.reduceSub, Int.reduceMul, Int.reduceNeg, Int.reduceToNat, reduceCtorEq, reduceIte, lenV_sl H.g, view_sl H.g, scalar_sl H.g, cells_sl H.g, pure_sl H.g, lenV_sl H.p, view_sl H.p, scalar_sl H.p, cells_sl H.p, pure_sl H.p, g0, hr, exOp_call2, hC, ← hoN, atN, stN, ← hh2]
  refine G_loop_ind (fun m ts h mk => ∃ k : Nat, k ≤ n.hs.length ∧ m = n.hs.length - k ∧ ts.length = 75 ∧ ts.getD 3 .undef = .ptr oN 0 ∧ ts.getD 4 .undef = I (hrs n.hs k) ∧ ts.getD 5 .undef = I k ∧ h[oN]? = some (.cells [I 1, .ms 4 oG 0 n.hs.length, .nils] false) ∧ h[oG]? = some (.cells ((zk n.hs k).flatMap Hl.e) false) ∧ oN < h.length ∧ mk = []) ?_ _ _ _ _
    ⟨0, Nat.zero_le _, rfl, rfl, rfl, rfl, rfl, uN, uG, by omega, rfl⟩
  rintro m ts h mk ih ⟨k, hk, rfl, hl', q3, q4, q5, k0, k1, lh, rfl⟩
  rw [lit_all hl']
  simp only [lit0, litS, Nat.reduceAdd, q3, q4, q5]
  simp (disch := first | assumption | omega | (simp only [az]; done)) only [ru, eq_self, if_true, if_false, BEq.rfl, binI, AO.row?, splice, fillL, mmAll, loadV, storeV, zeros, Am.rowAt, Am.part, addOff, Nat.reduceAdd, Nat.reduceMul, Nat.reduceLeDiff, Nat.reduceSub, Nat.reduceLT, Int.reduceEq, Int.reduceLT, Int.reduceLE, Int.reduceGT, Int.reduceGE, Int.reduceAdd, Int.reduceSub, Int.reduceMul, Int.reduceNeg, Int.reduceToNat, reduceCtorEq, reduceIte, k0]
  by_cases hlt : (k : Int) < n.hs.length
  case pos =>
    have hk' : k < n.hs.length := by omega
    have lz : (zk n.hs k).length = n.hs.length := zk_len
    have gt := hl_get (l := zk n.hs k) (i := k) (by omega)
    have pt := hl_put (l := zk n.hs k) (i := k) (by omega) (zer ((zk n.hs k).getD k default))
    have ez : (zk n.hs k).getD k default = n.hs.getD k default := by rw [zk_at (by omega), if_neg (by omega)]
    have zs : zk n.hs (k + 1) = (zk n.hs k).set k (zer ((zk n.hs k).getD k default)) := rfl
    rw [← zs] at pt
    rw [ez] at gt pt
    have hs : hrs n.hs (k + 1) = hrs n.hs k + (if inR (n.hs.getD k default).h 1 9 then (n.hs.getD k default).h else 0) := rfl
    have hb := hrs_bd (L := n.hs) (k := k)
    obtain ⟨x, hx⟩ : ∃ x, x = n.hs.getD k default := ⟨_, rfl⟩
    rw [← hx] at gt pt hs
    have gt' : ((((zk n.hs k).flatMap Hl.e).drop (k * 4)).take 4) = [I x.f, I x.lo, I x.hi, I x.h] := gt
    have pt' : ((zk n.hs k).flatMap Hl.e).take (k * 4) ++ [I 0, I x.lo, I x.hi, I x.h] ++ ((zk n.hs k).flatMap Hl.e).drop (k * 4 + 4) = (zk n.hs (k + 1)).flatMap Hl.e := pt
    have fl : ((zk n.hs k).flatMap Hl.e).length = n.hs.length * 4 := by rw [flat_len Hl.el, lz]
    obtain ⟨R, hR⟩ : ∃ R, R = (zk n.hs k).flatMap Hl.e := ⟨_, rfl⟩
    rw [← hR] at gt' pt' fl k1
    have fit : k * 4 + 4 ≤ R.length := by omega
    obtain ⟨S, hS⟩ : ∃ S, S = hrs n.hs k := ⟨_, rfl⟩
    rw [← hS] at hs hb ⊢
    obtain ⟨oH, hoH⟩ : ∃ oH, oH = h.length := ⟨_, rfl⟩
    have atH : ∀ X : AO, (h ++ [X])[oH]? = some X := fun X => by rw [hoH]; exact atE
    have stH : ∀ X Y : AO, (h ++ [X]).set oH Y = h ++ [Y] := fun X Y => by rw [hoH]; exact setE
    have v0 := fun X : AO => (at_ap (m := [X]) (show oN < h.length by omega)).trans k0
    have lgG : oG < h.length := (List.getElem?_eq_some_iff.1 k1).1
    obtain ⟨h3, hh3⟩ : ∃ h3, h3 = h ++ [AO.cells [I 0, I x.lo, I x.hi, I x.h] false] := ⟨_, rfl⟩
    have w0 : h3[oN]? = some (.cells [I 1, .ms 4 oG 0 n.hs.length, .nils] false) := by rw [hh3]; exact v0 _
    have w1 : h3[oG]? = some (.cells R false) := by rw [hh3, at_ap lgG]; exact k1
    have wH : h3[oH]? = some (.cells [I 0, I x.lo, I x.hi, I x.h] false) := by rw [hh3]; exact atH _
    have l3 : h3.length = oH + 1 := by rw [hh3, hoH]; simp
    have neNG : oN ≠ oG := by omega
    obtain ⟨h4, hh4⟩ : ∃ h4, h4 = h3.set oG (.cells (R.take (k * 4) ++ [I 0, I x.lo, I x.hi, I x.h] ++ R.drop (k * 4 + 4)) false) := ⟨_, rfl⟩
    have x0 : h4[oN]? = some (.cells [I 1, .ms 4 oG 0 n.hs.length, .nils] false) := by rw [hh4, List.getElem?_set_ne (Ne.symm neNG)]; exact w0
    have x1 : h4[oG]? = some (.cells ((zk n.hs (k + 1)).flatMap Hl.e) false) := by rw [hh4, List.getElem?_set_self (by omega), pt']
    have xH : h4[oH]? = some (.cells [I 0, I x.lo, I x.hi, I x.h] false) := by rw [hh4, List.getElem?_set_ne (by omega)]; exact wH
    have l4 : h4.length = oH + 1 := by rw [hh4]; simpa using l3
    cases hw : inR x.h 1 9
    · rw [hw] at hs
      have hs' : hrs n.hs (k + 1) = S := by rw [hs]; simp
      simp (disch := first | assumption | omega | (simp only [az]; done)) only [ru, eq_self, if_true, if_false, BEq.rfl, binI, AO.row?, splice, fillL, mmAll, loadV, storeV, zeros, Am.rowAt, Am.part, addOff, Nat.reduceAdd, Nat.reduceMul, Nat.reduceLeDiff, Nat.reduceSub, Nat.reduceLT, Int.reduceEq, Int.reduceLT, Int.reduceLE, Int.reduceGT, Int.reduceGE, Int.reduceAdd, Int.reduceSub, Int.reduceMul, Int.reduceNeg, Int.reduceToNat, reduceCtorEq, reduceIte, hlt, k0, k1, Int.toNat_natCast, Nat.zero_add, gt', ← hoH, atH, stH, v0, ← hh3, w0, w1, wH, fit, ← hh4, xH, s17, hw]
      exact ih (n.hs.length - (k + 1)) _ _ _ (by omega) ⟨k + 1, by omega, rfl, rfl, rfl, by rw [hs']; rfl, rfl, x0, x1, by omega, rfl⟩
    · have hw' := inR_iff.1 hw
      rw [hw] at hs
      have hs' : hrs n.hs (k + 1) = S + x.h := by rw [hs]; simp
      simp (disch := first | assumption | omega | (simp only [az]; done)) only [ru, eq_self, if_true, if_false, BEq.rfl, binI, AO.row?, splice, fillL, mmAll, loadV, storeV, zeros, Am.rowAt, Am.part, addOff, Nat.reduceAdd, Nat.reduceMul, Nat.reduceLeDiff, Nat.reduceSub, Nat.reduceLT, Int.reduceEq, Int.reduceLT, Int.reduceLE, Int.reduceGT, Int.reduceGE, Int.reduceAdd, Int.reduceSub, Int.reduceMul, Int.reduceNeg, Int.reduceToNat, reduceCtorEq, reduceIte, hlt, k0, k1, Int.toNat_natCast, Nat.zero_add, gt', ← hoH, atH, stH, v0, ← hh3, w0, w1, wH, fit, ← hh4, xH, s17, hw]
      exact ih (n.hs.length - (k + 1)) _ _ _ (by omega) ⟨k + 1, by omega, rfl, rfl, rfl, by rw [hs']; rfl, rfl, x0, x1, by omega, rfl⟩
  have ek : k = n.hs.length := by omega
  rw [ek] at k1 ⊢
  have nlt : ¬ (n.hs.length : Int) < n.hs.length := by omega
  clear ih hl' q3 q4 q5
  have vg : ∀ st, view st h 7 (.ms 4 oG 0 n.hs.length) = some gc := fun st => by
    rw [hgc]
    have := RdC.view (enc := Hl.e) (st := st) (k := 6) (h := h) (w := .ms 4 oG 0 n.hs.length) (l := n.rul1.hs) ⟨oG, by rw [el], k1⟩ Hl.el Hl.iv
    exact this
  have vw : ∀ st, view st h 8 (.agg [I 1, .ms 4 oG 0 n.hs.length, .nils]) = some (.agg [I 1, gc, .nils]) := fun st => by
    show ([I 1, AV.ms 4 oG 0 n.hs.length, .nils].mapM (Am.view st h 7)).map AV.agg = _
    simp only [List.mapM_cons, List.mapM_nil, view_int, vg, view_nils]; rfl
  have hb := hrs_bd (L := n.hs) (k := n.hs.length)
  cases hr2 : rdyB n.rul1 5
  case false => simp (disch := first | assumption | omega | (simp only [az]; done)) only [ru, eq_self, if_true, if_false, BEq.rfl, binI, AO.row?, splice, fillL, mmAll, loadV, storeV, zeros, Am.rowAt, Am.part, addOff, Nat.reduceAdd, Nat.reduceMul, Nat.reduceLeDiff, Nat.reduceSub, Nat.reduceLT, Int.reduceEq, Int.reduceLT, Int.reduceLE, Int.reduceGT, Int.reduceGE, Int.reduceAdd, Int.reduceSub, Int.reduceMul, Int.reduceNeg, Int.reduceToNat, reduceCtorEq, reduceIte, nlt, k0, vw, c49, hr2, Bool.not_false, s15]
  refine (rdy_ok HR hr2).elim fun HK hv => ?_
  refine (valid_ok hv).elim fun G hh => hh.2.2.elim fun l O => ?_
  have c39 := fun st => s39 HK st
  have c35 := fun st => s35 HK st
  have zf : ∀ i : Nat, (n.rul1.hs.getD i default).f = 0 := fun i => by
    show ((zk n.hs n.hs.length).getD i default).f = 0
    rw [zk_at (Nat.le_refl _)]
    split
    · rfl
    · rw [List.getD_eq_getElem?_getD, List.getElem?_eq_none (by omega)]; rfl
  have hh0 : ∀ x : Int, 0 ≤ hR n.rul1 x := fun x => by have := G.h.at x; unfold hR; omega
  have e1 := one_over G rfl rfl zf O
  have e2 := one_don (n := n.rul1) rfl rfl zf hh0 O
  rw [el] at e2
  have e3 : hrs n.hs n.hs.length = don n.rul1 := by
    rw [e2]
    refine hrs_eq fun j hj => ?_
    have a : (n.rul1.hs.getD j default).h = (n.hs.getD j default).h := by
      show ((zk n.hs n.hs.length).getD j default).h = _
      rw [zk_at (Nat.le_refl _), if_pos hj]; rfl
    have b := G.h.h _ (getD_mem (show j < n.rul1.hs.length by rw [el]; exact hj))
    rw [a] at b
    exact ⟨inR_iff.2 ⟨b.2.2.2.2.2.1, b.2.2.2.2.2.2⟩, by unfold hR; rw [Int.toNat_natCast]; exact a⟩
  have r1 : oveR n.rul1 = .tup [I 0, I 0] := by unfold oveR; rw [hv, e1, Int.sub_self]; rfl
  have r2 : donR n.rul1 = .tup [I (hrs n.hs n.hs.length), I 0] := by unfold donR; rw [hv, e3]; rfl
  simp only [netV, r1, r2, ← hgc, em] at c39 c35
  refine (⟨_, rfl⟩ : ∃ S, S = hrs n.hs n.hs.length).elim fun S hS => ?_
  rw [← hS] at hb ⊢
  simp only [← hS] at c35
  simp (disch := first | assumption | omega | (simp only [az]; done)) only [ru, eq_self, if_true, if_false, BEq.rfl, binI, AO.row?, splice, fillL, mmAll, loadV, storeV, zeros, Am.rowAt, Am.part, addOff, Nat.reduceAdd, Nat.reduceMul, Nat.reduceLeDiff, Nat.reduceSub, Nat.reduceLT, Int.reduceEq, Int.reduceLT, Int.reduceLE, Int.reduceGT, Int.reduceGE, Int.reduceAdd, Int.reduceSub, Int.reduceMul, Int.reduceNeg, Int.reduceToNat, reduceCtorEq, reduceIte, nlt, k0, vw, c49, hr2, c39, c35, gUn, Bool.not_true, beq_self_eq_true, decide_true, s15]
end
end Go.Proofs.Ytmmibahjjeldgaa.S

