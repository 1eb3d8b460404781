/-
The law of one pair less and one pair more.
-/
import Derived.Test.YtekoplcnlhanbaaQe
import Derived.Test.YtekoplcnlhanbaaNe
namespace Go.Proofs.Ytekoplcnlhanbaa.S
open Go Go.Am Go.Proofs.Ytekoplcnlhanbaa.T
set_option maxRecDepth 100000
set_option linter.unusedSimpArgs false
set_option linter.unusedVariables false

section
variable {n : Net} {g p : AV} {l : List Int} {v : AV}
set_option maxHeartbeats 8000000 in
theorem s12 (H0 : NetIn n g p) (x : Pr) (V : IsSl 1 intL l v) (st : Bool) : Iso E 12 [netV n g p, .agg [I x.a, I x.b], v] st = some (Bo true) := by
  have g0 := fun st => s49' H0 5 st
  simp only [netV] at g0
  cases hr : rdyB n 5
  case false =>
    refine Iso_of (es _ _ _ _) e12 ?_
    simp only [f12, netV]
    simp (disch := first | assumption | omega | (simp only [az]; done)) only [ru, eq_self, if_true, if_false, BEq.rfl, binI, AO.row?, splice, fillL, mmAll, loadV, storeV, zeros, Am.rowAt, Am.part, addOff, Nat.reduceAdd, Nat.reduceMul, Nat.reduceLeDiff, Nat.reduceSub, Nat.reduceLT, Int.reduceEq, Int.reduceLT, Int.reduceLE, Int.reduceGT, Int.reduceGE, Int.reduceAdd, Int.reduceSub, Int.reduceMul, Int.reduceNeg, Int.reduceToNat, reduceCtorEq, reduceIte, lenV_sl H0.g, view_sl H0.g, scalar_sl H0.g, cells_sl H0.g, pure_sl H0.g, lenV_sl H0.p, view_sl H0.p, scalar_sl H0.p, cells_sl H0.p, pure_sl H0.p, lenV_sl V, view_sl V, scalar_sl V, cells_sl V, pure_sl V, g0, hr, gUn, Bool.not_false, s15]
  obtain ⟨H, hv⟩ := rdy_ok H0 hr
  by_cases hl0 : (l.length : Int) > 40
  · refine Iso_of (es _ _ _ _) e12 ?_
    simp only [f12, netV]
    simp (disch := first | assumption | omega | (simp only [az]; done)) only [ru, eq_self, if_true, if_false, BEq.rfl, binI, AO.row?, splice, fillL, mmAll, loadV, storeV, zeros, Am.rowAt, Am.part, addOff, Nat.reduceAdd, Nat.reduceMul, Nat.reduceLeDiff, Nat.reduceSub, Nat.reduceLT, Int.reduceEq, Int.reduceLT, Int.reduceLE, Int.reduceGT, Int.reduceGE, Int.reduceAdd, Int.reduceSub, Int.reduceMul, Int.reduceNeg, Int.reduceToNat, reduceCtorEq, reduceIte, lenV_sl H0.g, view_sl H0.g, scalar_sl H0.g, cells_sl H0.g, pure_sl H0.g, lenV_sl H0.p, view_sl H0.p, scalar_sl H0.p, cells_sl H0.p, pure_sl H0.p, lenV_sl V, view_sl V, scalar_sl V, cells_sl V, pure_sl V, g0, hr, hl0, gUn, Bool.not_true, decide_true, s15]
    done
  obtain ⟨G, h8, hpb, l0, O0⟩ := valid_ok hv
  have c51 := fun st => s51 H hv st
  have c47 := fun st => s47 H st
  have c17 := fun st => s17' V (by omega) st
  have W := slV_is (esz := 1) (enc := intL) (l := l)
  obtain ⟨w, hw⟩ : ∃ q, q = slV 1 intL l := ⟨_, rfl⟩
  rw [← hw] at W
  simp only [← hw] at c17
  have c20 := fun st => s20 H W (by omega) st
  -- the copy
  obtain ⟨gv, pv, J, og, op, hC, hN, lg, lp⟩ := C16 H [.cells [I n.m, g, p] false, .cells [I x.a, I x.b] false]
  obtain ⟨HH, hHH⟩ : ∃ HH : List AO, HH = [.cells [I n.m, g, p] false, .cells [I x.a, I x.b] false] ++ J := ⟨_, rfl⟩
  rw [← hHH] at hC hN
  have lHH : HH.length = 2 + J.length := by rw [hHH]; simp; omega
  have t0 : HH[0]? = some (.cells [I n.m, g, p] false) := by rw [hHH]; rfl
  have t1 : HH[1]? = some (.cells [I x.a, I x.b] false) := by rw [hHH]; rfl
  obtain ⟨oG, hoG⟩ : ∃ oG, oG = 2 + og := ⟨_, rfl⟩
  have eG : gv = .ms 4 oG 0 n.hs.length := by rw [hN.eg, hoG]; rfl
  have aG : HH[oG]? = some (.cells (n.hs.flatMap Hl.e) false) := by rw [hoG]; exact hN.g
  obtain ⟨oP, hoP⟩ : ∃ oP, oP = 2 + op := ⟨_, rfl⟩
  have eP : pv = .ms 2 oP 0 n.ps.length := by rw [hN.ep, hoP]; rfl
  have aP : HH[oP]? = some (.cells (n.ps.flatMap Pr.e) false) := by rw [hoP]; exact hN.p
  have neGP : oG ≠ oP := by rw [hoG, hoP]; have := hN.ne; simp at this; omega
  subst eG eP
  obtain ⟨oN, hoN⟩ : ∃ oN, oN = HH.length := ⟨_, rfl⟩
  have atN : ∀ X : AO, (HH ++ [X])[oN]? = some X := fun X => by rw [hoN]; exact atE
  have stN : ∀ X Y : AO, (HH ++ [X]).set oN Y = HH ++ [Y] := fun X Y => by rw [hoN]; exact setE
  obtain ⟨h2, hh2⟩ : ∃ h2, h2 = HH ++ [AO.cells [I n.m, .ms 4 oG 0 n.hs.length, .ms 2 oP 0 n.ps.length] false] := ⟨_, rfl⟩
  have l2 : h2.length = oN + 1 := by rw [hh2, hoN]; simp
  have lG : oG < HH.length := (List.getElem?_eq_some_iff.1 aG).1
  have lP : oP < HH.length := (List.getElem?_eq_some_iff.1 aP).1
  have u0 : h2[0]? = some (.cells [I n.m, g, p] false) := by rw [hh2, at_ap (by omega)]; exact t0
  have u1 : h2[1]? = some (.cells [I x.a, I x.b] false) := by rw [hh2, at_ap (by omega)]; exact t1
  have uG : h2[oG]? = some (.cells (n.hs.flatMap Hl.e) false) := by rw [hh2, at_ap lG]; exact aG
  have uP : h2[oP]? = some (.cells (n.ps.flatMap Pr.e) false) := by rw [hh2, at_ap lP]; exact aP
  have uN : h2[oN]? = some (.cells [I n.m, .ms 4 oG 0 n.hs.length, .ms 2 oP 0 n.ps.length] false) := by rw [hh2, hoN]; exact atE
  have A := appV_ms (lim := 0) (eb := 16) (n := 1) (x := .cs 2 1 [I x.a, I x.b]) (xs := [I x.a, I x.b]) uP (by rw [prl]) rfl rfl rfl rfl (by omega) (by omega) (Nat.zero_le _)
  rw [if_neg (by omega), l2] at A
  obtain ⟨oQ, hoQ⟩ : ∃ oQ, oQ = oN + 1 := ⟨_, rfl⟩
  rw [← hoQ] at A
  obtain ⟨h3, hh3⟩ : ∃ h3, h3 = h2.set oP .tomb ++ [AO.cells (n.ps.flatMap Pr.e ++ [I x.a, I x.b]) false] := ⟨_, rfl⟩
  rw [← hh3] at A
  have ls : (h2.set oP .tomb).length = oQ := by rw [List.length_set, l2, hoQ]
  have l3 : h3.length = oQ + 1 := by rw [hh3, List.length_append, ls]; rfl
  have v0 : h3[0]? = some (.cells [I n.m, g, p] false) := by rw [hh3, at_ap (by omega), List.getElem?_set_ne (by omega)]; exact u0
  have vG : h3[oG]? = some (.cells (n.hs.flatMap Hl.e) false) := by rw [hh3, at_ap (by omega), List.getElem?_set_ne (by omega)]; exact uG
  have vN : h3[oN]? = some (.cells [I n.m, .ms 4 oG 0 n.hs.length, .ms 2 oP 0 n.ps.length] false) := by rw [hh3, at_ap (by omega), List.getElem?_set_ne (by omega)]; exact uN
  have vQ : h3[oQ]? = some (.cells (n.ps.flatMap Pr.e ++ [I x.a, I x.b]) false) := by rw [hh3, ← ls]; exact atE
  obtain ⟨h4, hh4⟩ : ∃ h4, h4 = h3.set oN (.cells [I n.m, .ms 4 oG 0 n.hs.length, .ms 2 oQ 0 (n.ps.length + 1)] false) := ⟨_, rfl⟩
  have y0 : h4[0]? = some (.cells [I n.m, g, p] false) := by rw [hh4, List.getElem?_set_ne (by omega)]; exact v0
  have yG : h4[oG]? = some (.cells (n.hs.flatMap Hl.e) false) := by rw [hh4, List.getElem?_set_ne (by omega)]; exact vG
  have yN : h4[oN]? = some (.cells [I n.m, .ms 4 oG 0 n.hs.length, .ms 2 oQ 0 (n.ps.length + 1)] false) := by rw [hh4, List.getElem?_set_self (by omega)]
  have yQ : h4[oQ]? = some (.cells ((n.adp x).ps.flatMap Pr.e) false) := by
    rw [hh4, List.getElem?_set_ne (by omega), vQ]
    show _ = some (AO.cells ((n.ps ++ [x]).flatMap Pr.e) false)
    rw [List.flatMap_append]; rfl
  have xA : CpN (n.adp x) h4 oG oQ (.ms 4 oG 0 n.hs.length) (.ms 2 oQ 0 (n.ps.length + 1)) := ⟨by omega, rfl, by show _ = AV.ms 2 oQ 0 (n.ps ++ [x]).length; rw [List.length_append]; rfl, yG, yQ⟩
  have vw := fun st => xA.view st (k := 6)
  have HA : NetIn (n.adp x) (slV 4 Hl.e (n.adp x).hs) (slV 2 Pr.e (n.adp x).ps) := ⟨slV_is, slV_is⟩
  have c49 := fun st => s49' HA 5 st
  have em : (n.adp x).m = n.m := rfl
  have hge : rdyB (n.adp x) 5 = true → NetOk (n.adp x) (slV 4 Hl.e (n.adp x).hs) (slV 2 Pr.e (n.adp x).ps) ∧ (n.adp x).valid = true ∧ lea n ≤ lea (n.adp x) ∧ don n ≤ don (n.adp x) := fun h => by
    obtain ⟨HA', hva⟩ := rdy_ok HA h
    obtain ⟨GA, _, _, la, OA⟩ := valid_ok hva
    exact ⟨HA', hva, adp_le GA OA⟩
  obtain ⟨Z, hZ⟩ : ∃ q, q = lea n := ⟨_, rfl⟩
  obtain ⟨D, hD⟩ : ∃ q, q = don n := ⟨_, rfl⟩
  have hle := fun i => loo_le G O0 (i := i)
  rw [← hZ, ← hD] at hge
  simp only [← hZ] at hle
  obtain ⟨g3, hg3⟩ : ∃ q, q = slV 4 Hl.e (n.adp x).hs := ⟨_, rfl⟩
  obtain ⟨p3, hp3⟩ : ∃ q, q = slV 2 Pr.e (n.adp x).ps := ⟨_, rfl⟩
  rw [← hg3, ← hp3] at hge HA
  simp only [netV, cpN, ← hZ, ← hD, ← hg3, ← hp3, em, gooR, hv, if_true, ropR] at c51 c47 c20 c49 vw hC
  refine Iso_of (es _ _ _ _) e12 ?_
  simp only [f12, netV]
  by_cases h0 : n.ps.length = 0
  case pos =>
    simp only [h0, if_true] at c47
    have h0i : (n.ps.length : Int) = 0 := by omega
    simp (disch := first | assumption | omega | (simp only [az]; done)) only [ru, eq_self, if_true, if_false, BEq.rfl, binI, AO.row?, splice, fillL, mmAll, loadV, storeV, zeros, Am.rowAt, Am.part, addOff, Nat.reduceAdd, Nat.reduceMul, Nat.reduceLeDiff, Nat.reduceSub, Nat.reduceLT, Int.reduceEq, Int.reduceLT, Int.reduceLE, Int.reduceGT, Int.reduceGE, Int.reduceAdd, Int.reduceSub, Int.reduceMul, Int.reduceNeg, Int.reduceToNat, reduceCtorEq, reduceIte, lenV_sl H.g, view_sl H.g, scalar_sl H.g, cells_sl H.g, pure_sl H.g, lenV_sl H.p, view_sl H.p, scalar_sl H.p, cells_sl H.p, pure_sl H.p, lenV_sl V, view_sl V, scalar_sl V, cells_sl V, pure_sl V, g0, hr, hl0, c51, c47, h0i, gUn, decide_true, decide_false, Bool.not_true, bne_self_eq_false]
    simp (disch := first | assumption | omega | (simp only [az]; done)) only [ru, eq_self, if_true, if_false, BEq.rfl, binI, AO.row?, splice, fillL, mmAll, loadV, storeV, zeros, Am.rowAt, Am.part, addOff, Nat.reduceAdd, Nat.reduceMul, Nat.reduceLeDiff, Nat.reduceSub, Nat.reduceLT, Int.reduceEq, Int.reduceLT, Int.reduceLE, Int.reduceGT, Int.reduceGE, Int.reduceAdd, Int.reduceSub, Int.reduceMul, Int.reduceNeg, Int.reduceToNat, reduceCtorEq, reduceIte, lenV_sl H.g, view_sl H.g, scalar_sl H.g, cells_sl H.g, pure_sl H.g, lenV_sl H.p, view_sl H.p, scalar_sl H.p, cells_sl H.p, pure_sl H.p, lenV_sl V, view_sl V, scalar_sl V, cells_sl V, pure_sl V, exOp_call2, hC, ← hoN, atN, stN, ← hh2, u0, u1, uN, exOp_litS, AV.pureV.go, AV.pureV, Bool.and_true, A, vN, ← hh4]
    cases hr2 : rdyB (n.adp x) 5
    case false =>
      simp (disch := first | assumption | omega | (simp only [az]; done)) only [ru, eq_self, if_true, if_false, BEq.rfl, binI, AO.row?, splice, fillL, mmAll, loadV, storeV, zeros, Am.rowAt, Am.part, addOff, Nat.reduceAdd, Nat.reduceMul, Nat.reduceLeDiff, Nat.reduceSub, Nat.reduceLT, Int.reduceEq, Int.reduceLT, Int.reduceLE, Int.reduceGT, Int.reduceGE, Int.reduceAdd, Int.reduceSub, Int.reduceMul, Int.reduceNeg, Int.reduceToNat, reduceCtorEq, reduceIte, y0, yN, vw, c49, hr2, gUn, Bool.not_false, s15]
      done
    obtain ⟨HB, hva, n1, n2⟩ := hge hr2
    have c51' := fun st => s51 HB hva st
    have c20' := fun st => s20 HB W (by omega) st
    have c50 := fun st => s50 HB V (by omega) st
    obtain ⟨Z2, hZ2⟩ : ∃ q, q = lea (n.adp x) := ⟨_, rfl⟩
    obtain ⟨D2, hD2⟩ : ∃ q, q = don (n.adp x) := ⟨_, rfl⟩
    rw [← hZ2] at n1
    rw [← hD2] at n2
    have n1' : Z2 ≥ Z := n1
    have n2' : D2 ≥ D := n2
    simp only [netV, em, ← hZ2, ← hD2, gooR, hva, if_true] at c51' c20' c50
    cases ho : ordB (n.adp x) l
    case false =>
      simp (disch := first | assumption | omega | (simp only [az]; done)) only [ru, eq_self, if_true, if_false, BEq.rfl, binI, AO.row?, splice, fillL, mmAll, loadV, storeV, zeros, Am.rowAt, Am.part, addOff, Nat.reduceAdd, Nat.reduceMul, Nat.reduceLeDiff, Nat.reduceSub, Nat.reduceLT, Int.reduceEq, Int.reduceLT, Int.reduceLE, Int.reduceGT, Int.reduceGE, Int.reduceAdd, Int.reduceSub, Int.reduceMul, Int.reduceNeg, Int.reduceToNat, reduceCtorEq, reduceIte, y0, yN, vw, c49, hr2, c51', c20', c20, c50, c17, n1', n2', ho, gUn, decide_true, Bool.not_true, Bool.not_false, beq_self_eq_true, lenV_sl H.g, view_sl H.g, scalar_sl H.g, cells_sl H.g, pure_sl H.g, lenV_sl H.p, view_sl H.p, scalar_sl H.p, cells_sl H.p, pure_sl H.p, lenV_sl V, view_sl V, scalar_sl V, cells_sl V, pure_sl V, lenV_sl W, view_sl W, scalar_sl W, cells_sl W, pure_sl W, s15]
      done
    have ho2 : ordB n l = true := ordB_iff.2 (adp_O (ordB_iff.1 ho))
    simp (disch := first | assumption | omega | (simp only [az]; done)) only [ru, eq_self, if_true, if_false, BEq.rfl, binI, AO.row?, splice, fillL, mmAll, loadV, storeV, zeros, Am.rowAt, Am.part, addOff, Nat.reduceAdd, Nat.reduceMul, Nat.reduceLeDiff, Nat.reduceSub, Nat.reduceLT, Int.reduceEq, Int.reduceLT, Int.reduceLE, Int.reduceGT, Int.reduceGE, Int.reduceAdd, Int.reduceSub, Int.reduceMul, Int.reduceNeg, Int.reduceToNat, reduceCtorEq, reduceIte, y0, yN, vw, c49, hr2, c51', c20', c20, c50, c17, n1', n2', ho, ho2, gUn, decide_true, Bool.not_true, Bool.not_false, beq_self_eq_true, lenV_sl H.g, view_sl H.g, scalar_sl H.g, cells_sl H.g, pure_sl H.g, lenV_sl H.p, view_sl H.p, scalar_sl H.p, cells_sl H.p, pure_sl H.p, lenV_sl V, view_sl V, scalar_sl V, cells_sl V, pure_sl V, lenV_sl W, view_sl W, scalar_sl W, cells_sl W, pure_sl W, s15]
    done
  have hp0 : 0 < n.ps.length := by omega
  have hp0i : (n.ps.length : Int) > 0 := by omega
  rw [if_neg h0] at c47
  have hR := rop_lt (n := n) (k := n.ps.length) hp0 (Nat.le_refl _)
  obtain ⟨k1, k2, k3⟩ := rop_ok (n := n) (k := n.ps.length)
  have c56 := s56 H hR
  have c56z := s56 H hp0
  have Hk : ∀ k, NetOk (n.loo k) (slV 4 Hl.e n.hs) (slV 2 Pr.e (n.ps.eraseIdx k)) := fun k => ⟨⟨slV_is, slV_is⟩, H.sg, (loo_ok H k).sp⟩
  have d51 := fun k st => s51 (Hk k) (loo_valid (i := k) hv) st
  have em2 : ∀ k, (n.loo k).m = n.m := fun _ => rfl
  obtain ⟨gl, hgl⟩ : ∃ q, q = slV 4 Hl.e n.hs := ⟨_, rfl⟩
  obtain ⟨pl, hpl⟩ : ∃ pl : Nat → AV, pl = fun k => slV 2 Pr.e (n.ps.eraseIdx k) := ⟨_, rfl⟩
  have hpl' : ∀ k, slV 2 Pr.e (n.ps.eraseIdx k) = pl k := fun k => by rw [hpl]
  have GL : IsSl 4 Hl.e n.hs gl := by rw [hgl]; exact slV_is
  have PL : ∀ k, IsSl 2 Pr.e (n.ps.eraseIdx k) (pl k) := fun k => by rw [← hpl']; exact slV_is
  obtain ⟨lk, hlk⟩ : ∃ f : Nat → Int, f = fun k => lea (n.loo k) := ⟨_, rfl⟩
  have hlk' : ∀ k, lea (n.loo k) = lk k := fun k => by rw [hlk]
  obtain ⟨dk, hdk⟩ : ∃ f : Nat → Int, f = fun k => don (n.loo k) := ⟨_, rfl⟩
  have hdk' : ∀ k, don (n.loo k) = dk k := fun k => by rw [hdk]
  obtain ⟨r, hrr⟩ : ∃ r, r = rop n := ⟨_, rfl⟩
  have hrr' : (ropU n n.ps.length).1 = r := by rw [hrr]
  rw [hrr'] at hR k1 k3 c56
  rw [k1] at k2 k3
  simp only [hlk'] at k2 k3 hle
  simp only [netV, ← hrr, ← hgl, hpl', em2, hlk', hdk'] at c47 c56 c56z d51
  have c54 := fun st => s17 (r : Int) 0 ((n.ps.length : Int) - 1) st
  rw [inR_iff.2 ⟨by omega, by omega⟩] at c54
  have PR := PL r
  have P0 := PL 0
  have dr := d51 r
  have d0 := d51 0
  have q1 : ¬ (lk r > Z) := by have := hle r; omega
  have q2 : ¬ (lk r > lk 0) := by omega
  have b1 := lea_bd G O0
  rw [show ((0 : Nat) : Int) = 0 from rfl] at c56z
  by_cases q3 : lk r = lk 0
  case pos =>
    have r0 : r = 0 := k3 q3
    have q4 : ¬ ((r : Int) > 0) := by omega
    have q5 : ¬ (lk 0 > Z) := by omega
    have q6 : ¬ (lk 0 > lk 0) := by omega
    simp (disch := first | assumption | omega | (simp only [az]; done)) only [ru, eq_self, if_true, if_false, BEq.rfl, binI, AO.row?, splice, fillL, mmAll, loadV, storeV, zeros, Am.rowAt, Am.part, addOff, Nat.reduceAdd, Nat.reduceMul, Nat.reduceLeDiff, Nat.reduceSub, Nat.reduceLT, Int.reduceEq, Int.reduceLT, Int.reduceLE, Int.reduceGT, Int.reduceGE, Int.reduceAdd, Int.reduceSub, Int.reduceMul, Int.reduceNeg, Int.reduceToNat, reduceCtorEq, reduceIte, lenV_sl H.g, view_sl H.g, scalar_sl H.g, cells_sl H.g, pure_sl H.g, lenV_sl H.p, view_sl H.p, scalar_sl H.p, cells_sl H.p, pure_sl H.p, lenV_sl V, view_sl V, scalar_sl V, cells_sl V, pure_sl V, lenV_sl GL, view_sl GL, scalar_sl GL, cells_sl GL, pure_sl GL, lenV_sl PR, view_sl PR, scalar_sl PR, cells_sl PR, pure_sl PR, lenV_sl P0, view_sl P0, scalar_sl P0, cells_sl P0, pure_sl P0, g0, hr, hl0, c51, c47, hp0i, c54, c56, c56z, dr, d0, q1, q2, q3, q4, q5, q6, gUn, decide_true, decide_false, Bool.not_true, bne_self_eq_false]
    simp (disch := first | assumption | omega | (simp only [az]; done)) only [ru, eq_self, if_true, if_false, BEq.rfl, binI, AO.row?, splice, fillL, mmAll, loadV, storeV, zeros, Am.rowAt, Am.part, addOff, Nat.reduceAdd, Nat.reduceMul, Nat.reduceLeDiff, Nat.reduceSub, Nat.reduceLT, Int.reduceEq, Int.reduceLT, Int.reduceLE, Int.reduceGT, Int.reduceGE, Int.reduceAdd, Int.reduceSub, Int.reduceMul, Int.reduceNeg, Int.reduceToNat, reduceCtorEq, reduceIte, lenV_sl H.g, view_sl H.g, scalar_sl H.g, cells_sl H.g, pure_sl H.g, lenV_sl H.p, view_sl H.p, scalar_sl H.p, cells_sl H.p, pure_sl H.p, lenV_sl V, view_sl V, scalar_sl V, cells_sl V, pure_sl V, exOp_call2, hC, ← hoN, atN, stN, ← hh2, u0, u1, uN, exOp_litS, AV.pureV.go, AV.pureV, Bool.and_true, A, vN, ← hh4]
    cases hr2 : rdyB (n.adp x) 5
    case false =>
      simp (disch := first | assumption | omega | (simp only [az]; done)) only [ru, eq_self, if_true, if_false, BEq.rfl, binI, AO.row?, splice, fillL, mmAll, loadV, storeV, zeros, Am.rowAt, Am.part, addOff, Nat.reduceAdd, Nat.reduceMul, Nat.reduceLeDiff, Nat.reduceSub, Nat.reduceLT, Int.reduceEq, Int.reduceLT, Int.reduceLE, Int.reduceGT, Int.reduceGE, Int.reduceAdd, Int.reduceSub, Int.reduceMul, Int.reduceNeg, Int.reduceToNat, reduceCtorEq, reduceIte, y0, yN, vw, c49, hr2, gUn, Bool.not_false, s15]
      done
    obtain ⟨HB, hva, n1, n2⟩ := hge hr2
    have c51' := fun st => s51 HB hva st
    have c20' := fun st => s20 HB W (by omega) st
    have c50 := fun st => s50 HB V (by omega) st
    obtain ⟨Z2, hZ2⟩ : ∃ q, q = lea (n.adp x) := ⟨_, rfl⟩
    obtain ⟨D2, hD2⟩ : ∃ q, q = don (n.adp x) := ⟨_, rfl⟩
    rw [← hZ2] at n1
    rw [← hD2] at n2
    have n1' : Z2 ≥ Z := n1
    have n2' : D2 ≥ D := n2
    simp only [netV, em, ← hZ2, ← hD2, gooR, hva, if_true] at c51' c20' c50
    cases ho : ordB (n.adp x) l
    case false =>
      simp (disch := first | assumption | omega | (simp only [az]; done)) only [ru, eq_self, if_true, if_false, BEq.rfl, binI, AO.row?, splice, fillL, mmAll, loadV, storeV, zeros, Am.rowAt, Am.part, addOff, Nat.reduceAdd, Nat.reduceMul, Nat.reduceLeDiff, Nat.reduceSub, Nat.reduceLT, Int.reduceEq, Int.reduceLT, Int.reduceLE, Int.reduceGT, Int.reduceGE, Int.reduceAdd, Int.reduceSub, Int.reduceMul, Int.reduceNeg, Int.reduceToNat, reduceCtorEq, reduceIte, y0, yN, vw, c49, hr2, c51', c20', c20, c50, c17, n1', n2', ho, gUn, decide_true, Bool.not_true, Bool.not_false, beq_self_eq_true, lenV_sl H.g, view_sl H.g, scalar_sl H.g, cells_sl H.g, pure_sl H.g, lenV_sl H.p, view_sl H.p, scalar_sl H.p, cells_sl H.p, pure_sl H.p, lenV_sl V, view_sl V, scalar_sl V, cells_sl V, pure_sl V, lenV_sl W, view_sl W, scalar_sl W, cells_sl W, pure_sl W, s15]
      done
    have ho2 : ordB n l = true := ordB_iff.2 (adp_O (ordB_iff.1 ho))
    simp (disch := first | assumption | omega | (simp only [az]; done)) only [ru, eq_self, if_true, if_false, BEq.rfl, binI, AO.row?, splice, fillL, mmAll, loadV, storeV, zeros, Am.rowAt, Am.part, addOff, Nat.reduceAdd, Nat.reduceMul, Nat.reduceLeDiff, Nat.reduceSub, Nat.reduceLT, Int.reduceEq, Int.reduceLT, Int.reduceLE, Int.reduceGT, Int.reduceGE, Int.reduceAdd, Int.reduceSub, Int.reduceMul, Int.reduceNeg, Int.reduceToNat, reduceCtorEq, reduceIte, y0, yN, vw, c49, hr2, c51', c20', c20, c50, c17, n1', n2', ho, ho2, gUn, decide_true, Bool.not_true, Bool.not_false, beq_self_eq_true, lenV_sl H.g, view_sl H.g, scalar_sl H.g, cells_sl H.g, pure_sl H.g, lenV_sl H.p, view_sl H.p, scalar_sl H.p, cells_sl H.p, pure_sl H.p, lenV_sl V, view_sl V, scalar_sl V, cells_sl V, pure_sl V, lenV_sl W, view_sl W, scalar_sl W, cells_sl W, pure_sl W, s15]
    done
  simp (disch := first | assumption | omega | (simp only [az]; done)) only [ru, eq_self, if_true, if_false, BEq.rfl, binI, AO.row?, splice, fillL, mmAll, loadV, storeV, zeros, Am.rowAt, Am.part, addOff, Nat.reduceAdd, Nat.reduceMul, Nat.reduceLeDiff, Nat.reduceSub, Nat.reduceLT, Int.reduceEq, Int.reduceLT, Int.reduceLE, Int.reduceGT, Int.reduceGE, Int.reduceAdd, Int.reduceSub, Int.reduceMul, Int.reduceNeg, Int.reduceToNat, reduceCtorEq, reduceIte, lenV_sl H.g, view_sl H.g, scalar_sl H.g, cells_sl H.g, pure_sl H.g, lenV_sl H.p, view_sl H.p, scalar_sl H.p, cells_sl H.p, pure_sl H.p, lenV_sl V, view_sl V, scalar_sl V, cells_sl V, pure_sl V, lenV_sl GL, view_sl GL, scalar_sl GL, cells_sl GL, pure_sl GL, lenV_sl PR, view_sl PR, scalar_sl PR, cells_sl PR, pure_sl PR, lenV_sl P0, view_sl P0, scalar_sl P0, cells_sl P0, pure_sl P0, g0, hr, hl0, c51, c47, hp0i, c54, c56, c56z, dr, d0, q1, q2, q3, gUn, decide_true, decide_false, Bool.not_true, bne_self_eq_false]
  simp (disch := first | assumption | omega | (simp only [az]; done)) only [ru, eq_self, if_true, if_false, BEq.rfl, binI, AO.row?, splice, fillL, mmAll, loadV, storeV, zeros, Am.rowAt, Am.part, addOff, Nat.reduceAdd, Nat.reduceMul, Nat.reduceLeDiff, Nat.reduceSub, Nat.reduceLT, Int.reduceEq, Int.reduceLT, Int.reduceLE, Int.reduceGT, Int.reduceGE, Int.reduceAdd, Int.reduceSub, Int.reduceMul, Int.reduceNeg, Int.reduceToNat, reduceCtorEq, reduceIte, lenV_sl H.g, view_sl H.g, scalar_sl H.g, cells_sl H.g, pure_sl H.g, lenV_sl H.p, view_sl H.p, scalar_sl H.p, cells_sl H.p, pure_sl H.p, lenV_sl V, view_sl V, scalar_sl V, cells_sl V, pure_sl V, exOp_call2, hC, ← hoN, atN, stN, ← hh2, u0, u1, uN, exOp_litS, AV.pureV.go, AV.pureV, Bool.and_true, A, vN, ← hh4]
  cases hr2 : rdyB (n.adp x) 5
  case false =>
    simp (disch := first | assumption | omega | (simp only [az]; done)) only [ru, eq_self, if_true, if_false, BEq.rfl, binI, AO.row?, splice, fillL, mmAll, loadV, storeV, zeros, Am.rowAt, Am.part, addOff, Nat.reduceAdd, Nat.reduceMul, Nat.reduceLeDiff, Nat.reduceSub, Nat.reduceLT, Int.reduceEq, Int.reduceLT, Int.reduceLE, Int.reduceGT, Int.reduceGE, Int.reduceAdd, Int.reduceSub, Int.reduceMul, Int.reduceNeg, Int.reduceToNat, reduceCtorEq, reduceIte, y0, yN, vw, c49, hr2, gUn, Bool.not_false, s15]
    done
  obtain ⟨HB, hva, n1, n2⟩ := hge hr2
  have c51' := fun st => s51 HB hva st
  have c20' := fun st => s20 HB W (by omega) st
  have c50 := fun st => s50 HB V (by omega) st
  obtain ⟨Z2, hZ2⟩ : ∃ q, q = lea (n.adp x) := ⟨_, rfl⟩
  obtain ⟨D2, hD2⟩ : ∃ q, q = don (n.adp x) := ⟨_, rfl⟩
  rw [← hZ2] at n1
  rw [← hD2] at n2
  have n1' : Z2 ≥ Z := n1
  have n2' : D2 ≥ D := n2
  simp only [netV, em, ← hZ2, ← hD2, gooR, hva, if_true] at c51' c20' c50
  cases ho : ordB (n.adp x) l
  case false =>
    simp (disch := first | assumption | omega | (simp only [az]; done)) only [ru, eq_self, if_true, if_false, BEq.rfl, binI, AO.row?, splice, fillL, mmAll, loadV, storeV, zeros, Am.rowAt, Am.part, addOff, Nat.reduceAdd, Nat.reduceMul, Nat.reduceLeDiff, Nat.reduceSub, Nat.reduceLT, Int.reduceEq, Int.reduceLT, Int.reduceLE, Int.reduceGT, Int.reduceGE, Int.reduceAdd, Int.reduceSub, Int.reduceMul, Int.reduceNeg, Int.reduceToNat, reduceCtorEq, reduceIte, y0, yN, vw, c49, hr2, c51', c20', c20, c50, c17, n1', n2', ho, gUn, decide_true, Bool.not_true, Bool.not_false, beq_self_eq_true, lenV_sl H.g, view_sl H.g, scalar_sl H.g, cells_sl H.g, pure_sl H.g, lenV_sl H.p, view_sl H.p, scalar_sl H.p, cells_sl H.p, pure_sl H.p, lenV_sl V, view_sl V, scalar_sl V, cells_sl V, pure_sl V, lenV_sl W, view_sl W, scalar_sl W, cells_sl W, pure_sl W, s15]
    done
  have ho2 : ordB n l = true := ordB_iff.2 (adp_O (ordB_iff.1 ho))
  simp (disch := first | assumption | omega | (simp only [az]; done)) only [ru, eq_self, if_true, if_false, BEq.rfl, binI, AO.row?, splice, fillL, mmAll, loadV, storeV, zeros, Am.rowAt, Am.part, addOff, Nat.reduceAdd, Nat.reduceMul, Nat.reduceLeDiff, Nat.reduceSub, Nat.reduceLT, Int.reduceEq, Int.reduceLT, Int.reduceLE, Int.reduceGT, Int.reduceGE, Int.reduceAdd, Int.reduceSub, Int.reduceMul, Int.reduceNeg, Int.reduceToNat, reduceCtorEq, reduceIte, y0, yN, vw, c49, hr2, c51', c20', c20, c50, c17, n1', n2', ho, ho2, gUn, decide_true, Bool.not_true, Bool.not_false, beq_self_eq_true, lenV_sl H.g, view_sl H.g, scalar_sl H.g, cells_sl H.g, pure_sl H.g, lenV_sl H.p, view_sl H.p, scalar_sl H.p, cells_sl H.p, pure_sl H.p, lenV_sl V, view_sl V, scalar_sl V, cells_sl V, pure_sl V, lenV_sl W, view_sl W, scalar_sl W, cells_sl W, pure_sl W, s15]
  done
end
end Go.Proofs.Ytekoplcnlhanbaa.S

