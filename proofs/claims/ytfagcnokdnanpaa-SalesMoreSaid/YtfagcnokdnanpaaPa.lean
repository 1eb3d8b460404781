/-
SalesNeed (the seat of More, Need, Later).
-/
import Derived.Test.YtfagcnokdnanpaaS2
namespace Go.Proofs.Ytfagcnokdnanpaa.S
open Go Go.Am Go.Proofs.Ytfagcnokdnanpaa.T
set_option maxRecDepth 100000
set_option linter.unusedSimpArgs false
set_option linter.unusedVariables false

section
variable {f : Fs} {k p b pv bv : AV} {w : Nat → AV}
theorem wot_ge (G : FG f) {r : Int → Bool} {c : Int} : 0 ≤ wot f.bids r c ∧ wot f.bids r c ≤ 396 := by
  have h := best_ge G.bg (r := r) (pm := fun s => !decide (c ∈ s)) (s := []) isS_nil (by simp)
  have b := bsT_bd G.bg (r := r) (pm := fun s => !decide (c ∈ s))
  simp only [prc, List.map_nil, sm] at h
  unfold wot; omega
theorem wit_bd (G : FG f) {r : Int → Bool} {c : Int} : -1 ≤ wit f.bids r c ∧ wit f.bids r c ≤ 396 := bsT_bd G.bg
/-- what a bid needs, at last -/
def needN (L : List Bi) (r : Int → Bool) (c : Int) : Int := if needE L r c then 100 else needF L r c
theorem needN_bd {L : List Bi} {r : Int → Bool} {c : Int} : 0 ≤ needN L r c ∧ needN L r c ≤ 100 := by
  unfold needN
  split
  · omega
  · rename_i h
    simp only [needE, Bool.or_eq_true, decide_eq_true_eq, not_or] at h
    have : 0 ≤ needF L r c := by unfold needF mx; split <;> omega
    omega
theorem need_off (G : FG f) {c z : Int} (c0 : 0 ≤ c) (hc : c < f.bids.length) (hz : 0 ≤ z ∧ z ≤ 99) : wonF (f.off c z).bids f.r c = 2 ↔ z < needN f.bids f.r c := by
  have o := off_best G c0 hc hz
  have wo := wot_ge G (r := f.r) (c := c)
  have wi := wit_bd G (r := f.r) (c := c)
  have e1 : wonF (f.off c z).bids f.r c = 2 ↔ wit (f.off c z).bids f.r c < wot (f.off c z).bids f.r c := by
    unfold wonF; split
    · rename_i h; exact ⟨fun _ => h, fun _ => rfl⟩
    · rename_i h; split
      · exact ⟨fun h => (by cases h), fun h' => absurd h' h⟩
      · exact ⟨fun h => (by cases h), fun h' => absurd h' h⟩
  rw [e1, o.2.2]
  obtain ⟨M, hM⟩ : ∃ M, M = needF f.bids f.r c := ⟨_, rfl⟩
  have m1 : 0 ≤ M ∧ wot f.bids f.r c - (wit f.bids f.r c - (bAt f.bids c).c) ≤ M ∧ (M = 0 ∨ M = wot f.bids f.r c - (wit f.bids f.r c - (bAt f.bids c).c)) := by
    rw [hM]; unfold needF mx; split <;> omega
  unfold needN needE
  rw [← hM]
  by_cases hw : wit f.bids f.r c ≥ 0
  · rw [o.1 hw]
    have : ¬ wit f.bids f.r c < 0 := by omega
    simp only [this, decide_false, Bool.false_or, decide_eq_true_eq]
    split <;> omega
  · rw [o.2.1 (by omega)]
    have : wit f.bids f.r c < 0 := by omega
    simp only [this, decide_true, Bool.true_or, if_true]
    omega
theorem off_self {c : Int} (c0 : 0 ≤ c) (hc : c < f.bids.length) : f.off c (bAt f.bids c).c = f := by
  have : f.bids.set c.toNat (bAt f.bids c) = f.bids := by
    have hc' : c.toNat < f.bids.length := by omega
    rw [show bAt f.bids c = f.bids[c.toNat] by simp [bAt, List.getD_eq_getElem?_getD, List.getElem?_eq_getElem hc']]
    exact List.set_getElem_self hc'
  show ({ f with bids := f.bids.set c.toNat (bAt f.bids c) } : Fs) = f
  rw [this]
theorem wonF_in {L : List Bi} {r : Int → Bool} {c : Int} : wonF L r c = 1 ∨ wonF L r c = 2 ∨ wonF L r c = 3 := by
  unfold wonF; split
  · exact .inr (.inl rfl)
  · split
    · exact .inl rfl
    · exact .inr (.inr rfl)
set_option maxHeartbeats 4000000 in
theorem n4 (H : FsIn f k p b pv bv w) (c : Int) : Iso E 4 [frV f k p b pv bv, I c] false = some (Bo true) := by
  have a13 := fun st => t13 H st
  simp only [frV] at a13
  refine Iso_of (es _ _ _ _) e4 ?_
  simp only [f4]
  cases hr : f.rdy
  · rw [hr] at a13
    simp (disch := first | assumption | omega | (simp only [az]; done)) only [ru, eq_self, if_true, if_false, BEq.rfl, binI, AO.row?, splice, fillL, mmAll, loadV, storeV, zeros, Am.rowAt, Am.part, addOff, Nat.reduceAdd, Nat.reduceMul, Nat.reduceLeDiff, Nat.reduceSub, Nat.reduceLT, Int.reduceEq, Int.reduceLT, Int.reduceLE, Int.reduceGT, Int.reduceGE, Int.reduceAdd, Int.reduceSub, Int.reduceMul, Int.reduceNeg, Int.reduceToNat, reduceCtorEq, reduceIte, lenV_sl H.h.k, lenV_sl H.h.p, lenV_sl H.h.b, elem_kd H.h.k, elem_pr H.h.p, elem_in H.h.b, view_sl H.h.k, view_sl H.h.p, view_sl H.h.b, scalar_sl H.h.k, scalar_sl H.h.p, scalar_sl H.h.b, cells_sl H.h.k, cells_sl H.h.p, cells_sl H.h.b, pure_sl H.h.k, pure_sl H.h.p, pure_sl H.h.b, Int.toNat_natCast, lenV_sl H.pk, view_sl H.pk, scalar_sl H.pk, cells_sl H.pk, pure_sl H.pk, H.bi.len, H.bi.sc, H.bi.ce, H.bi.pu, H.bi.vw, a13, t15, gUn, Bool.not_false]
  rw [hr] at a13
  obtain ⟨K, G, hv⟩ := rdy_ok H hr
  have a85 := fun st => t85 K c st
  simp only [frV] at a85
  cases hu : inR c 0 (f.bids.length - 1)
  · rw [hu] at a85
    simp (disch := first | assumption | omega | (simp only [az]; done)) only [ru, eq_self, if_true, if_false, BEq.rfl, binI, AO.row?, splice, fillL, mmAll, loadV, storeV, zeros, Am.rowAt, Am.part, addOff, Nat.reduceAdd, Nat.reduceMul, Nat.reduceLeDiff, Nat.reduceSub, Nat.reduceLT, Int.reduceEq, Int.reduceLT, Int.reduceLE, Int.reduceGT, Int.reduceGE, Int.reduceAdd, Int.reduceSub, Int.reduceMul, Int.reduceNeg, Int.reduceToNat, reduceCtorEq, reduceIte, lenV_sl H.h.k, lenV_sl H.h.p, lenV_sl H.h.b, elem_kd H.h.k, elem_pr H.h.p, elem_in H.h.b, view_sl H.h.k, view_sl H.h.p, view_sl H.h.b, scalar_sl H.h.k, scalar_sl H.h.p, scalar_sl H.h.b, cells_sl H.h.k, cells_sl H.h.p, cells_sl H.h.b, pure_sl H.h.k, pure_sl H.h.p, pure_sl H.h.b, Int.toNat_natCast, lenV_sl H.pk, view_sl H.pk, scalar_sl H.pk, cells_sl H.pk, pure_sl H.pk, H.bi.len, H.bi.sc, H.bi.ce, H.bi.pu, H.bi.vw, a13, a85, t15, gUn, Bool.not_false, Bool.not_true]
  rw [hu] at a85
  have hcr := inR_iff.1 hu
  have c0 : 0 ≤ c := hcr.1
  have hc : c < f.bids.length := by omega
  have nb := K.nb
  have gc := G.bg.at c0 hc
  have eb := H.bi.el c c0 hc
  have a49 := fun st => t49 K c st
  have a21 := fun st => t21 K c st
  simp only [frV, hv, hu, askF, fE_t, if_true, true_and] at a49 a21
  have nd := needN_bd (L := f.bids) (r := f.r) (c := c)
  have ws := need_off G c0 hc ⟨gc.2.2.1, gc.2.2.2.1⟩
  rw [off_self c0 hc] at ws
  have wi := wonF_in (L := f.bids) (r := f.r) (c := c)
  obtain ⟨Nn, hN⟩ : ∃ N, N = needN f.bids f.r c := ⟨_, rfl⟩
  have no : ∀ z : Int, 0 ≤ z ∧ z ≤ 99 → (wonF (f.off c z).bids f.r c = 2 ↔ z < Nn) := fun z hz => by rw [hN]; exact need_off G c0 hc hz
  rw [← hN] at nd ws
  obtain ⟨W, hW⟩ : ∃ W, W = wonF f.bids f.r c := ⟨_, rfl⟩
  rw [← hW] at ws wi a21
  have wr : inR W 1 3 = true := inR_iff.2 (by omega)
  obtain ⟨pc, hpc⟩ : ∃ x, x = (bAt f.bids c).c := ⟨_, rfl⟩
  rw [← hpc] at ws eb gc
  have n1 : ¬ Nn < 0 := by omega
  have n2 : ¬ Nn > 100 := by omega
  have we : (W != 2) = decide (pc ≥ Nn) := by
    rw [Bool.eq_iff_iff, bne_iff_ne, decide_eq_true_eq]; omega
  have eqs : (decide (pc ≥ Nn) != decide (pc ≥ Nn)) = false := by simp
  -- what a round asks
  have rnd : ∀ z : Int, 0 ≤ z → z ≤ 99 → ∃ (B : AV) (m : Int), (Iso E 12 [.agg [k, I f.h.fl, p, b, pv, I f.d, I f.n, bv], I c, I z] false = some (.agg [hsK f, I f.h.fl, hsP f, hsB f, slV 1 intL f.pk, I f.d, I f.n, B])) ∧ (∀ st, Iso E 13 [.agg [hsK f, I f.h.fl, hsP f, hsB f, slV 1 intL f.pk, I f.d, I f.n, B], I c] st = some (.tup [I m, I 0])) ∧ B.scalar = true ∧ B.cells = [B] ∧ (∀ (g : List AO) (n : Nat), view false g (n + 1) B = some B) ∧ B.pureV = true ∧ (m == 2) = decide (z < Nn) := fun z z0 z9 => by
    obtain ⟨w', K'⟩ := K.off (z := z) c0 hc
    have hv' := off_valid hv c0 hc ⟨z0, z9⟩
    have a28 := t28 K c0 hc z
    have b21 := fun st => t21 K' c st
    have hl : (f.off c z).bids.length = f.bids.length := by simp [Fs.off]
    have e1 : (f.off c z).n = f.n := rfl
    simp only [hv', hl, hu, askF, fE_t, if_true, off_r] at b21
    refine ⟨resB (f.off c z).bids, wonF (f.off c z).bids f.r c, a28, b21, K'.bi.sc, K'.bi.ce, fun g n => K'.bi.vw g _, K'.bi.pu, ?_⟩
    rw [Bool.beq_eq_decide_eq, decide_eq_decide]
    exact no z ⟨z0, z9⟩
  have sk : IsSl 2 Kd.e f.h.ks (slV 2 Kd.e f.h.ks) := slV_is
  have sp : IsSl 2 Pr.e f.h.ps (slV 2 Pr.e f.h.ps) := slV_is
  have sb : IsSl 1 intL f.h.bs (slV 1 intL f.h.bs) := slV_is
  have sq : IsSl 1 intL f.pk (slV 1 intL f.pk) := slV_is
  have key : ∃ e v : Int, (e = 0 ∧ v = Nn ∨ e = 3) ∧ ∀ st, Iso E 14 [.agg [k, I f.h.fl, p, b, pv, I f.d, I f.n, bv], I c] st = some (.tup [I v, I e]) ∧ (e = 3 → Nn = 100) := by
    cases he : needE f.bids f.r c
    · refine ⟨0, Nn, .inl ⟨rfl, rfl⟩, fun st => ⟨?_, by simp⟩⟩
      have := a49 st
      rw [he] at this
      rw [hN]; unfold needN; rw [he]
      exact this
    · refine ⟨3, 0, .inr rfl, fun st => ⟨?_, fun _ => ?_⟩⟩
      · have := a49 st
        rw [he] at this
        exact this
      · rw [hN]; unfold needN; rw [he]; rfl
  obtain ⟨e, v, hev, a14⟩ := key
  have a14' := fun st => (a14 st).1
  have e100 := (a14 true).2
  clear a49 no a14
  obtain ⟨N0, hN0⟩ : ∃ N0, N0 = Nn := ⟨_, rfl⟩
  simp only [← hN0] at rnd
  have nd0 := nd
  rw [← hN0] at nd0
  have sb0 : 0 ≤ mmx true 0 (N0 - 1) ∧ mmx true 0 (N0 - 1) ≤ 101 := by unfold mmx; simp only [Bool.false_eq_true, if_true, if_false]; split <;> omega
  have mn0 : mmx false N0 99 ≤ 99 := by unfold mmx; simp only [Bool.false_eq_true, if_true, if_false]; split <;> omega
  rcases hev with ⟨rfl, rfl⟩ | rfl
  all_goals
    try obtain rfl := e100 rfl
    simp (disch := first | assumption | omega | (simp only [az]; done)) only [ru, eq_self, if_true, if_false, BEq.rfl, binI, AO.row?, splice, fillL, mmAll, loadV, storeV, zeros, Am.rowAt, Am.part, addOff, Nat.reduceAdd, Nat.reduceMul, Nat.reduceLeDiff, Nat.reduceSub, Nat.reduceLT, Int.reduceEq, Int.reduceLT, Int.reduceLE, Int.reduceGT, Int.reduceGE, Int.reduceAdd, Int.reduceSub, Int.reduceMul, Int.reduceNeg, Int.reduceToNat, reduceCtorEq, reduceIte, lenV_sl H.h.k, lenV_sl H.h.p, lenV_sl H.h.b, elem_kd H.h.k, elem_pr H.h.p, elem_in H.h.b, view_sl H.h.k, view_sl H.h.p, view_sl H.h.b, scalar_sl H.h.k, scalar_sl H.h.p, scalar_sl H.h.b, cells_sl H.h.k, cells_sl H.h.p, cells_sl H.h.b, pure_sl H.h.k, pure_sl H.h.p, pure_sl H.h.b, Int.toNat_natCast, lenV_sl H.pk, view_sl H.pk, scalar_sl H.pk, cells_sl H.pk, pure_sl H.pk, H.bi.len, H.bi.sc, H.bi.ce, H.bi.pu, H.bi.vw, a13, a85, a14', a21, s57, wr, we, eqs, n1, n2, eb, gUn, Bool.not_true, decide_false]
    refine G_loop_ind (fun y ts hk mk => ∃ (z : Int), 0 ≤ z ∧ z ≤ 101 ∧ y = (101 - z).toNat ∧ hk[0]? = some (.cells [k, I f.h.fl, p, b, pv, I f.d, I f.n, bv] false) ∧
        ts.length = 99 ∧ ts.getD 1 .undef = I c ∧ ts.getD 2 .undef = .ptr 0 0 ∧ ts.getD 5 .undef = I N0 ∧ ts.getD 9 .undef = I z ∧ mk = []) ?_ (101 - mmx true 0 (N0 - 1)).toNat _ _ _ ⟨mmx true 0 (N0 - 1), sb0.1, sb0.2, rfl, rfl, rfl, rfl, rfl, by rw [hN0]; rfl, by rw [hN0]; rfl, rfl⟩
    · rintro y ts hk mk ih ⟨z, z0, z1, rfl, cc, hlt', q1, q2, q5, q9, rfl⟩
      rw [lit_all hlt']
      simp only [lit0, litS, Nat.reduceAdd, q1, q2, q5, q9]
      simp (disch := first | assumption | omega | (simp only [az]; done)) only [ru, eq_self, if_true, if_false, BEq.rfl, binI, AO.row?, splice, fillL, mmAll, loadV, storeV, zeros, Am.rowAt, Am.part, addOff, Nat.reduceAdd, Nat.reduceMul, Nat.reduceLeDiff, Nat.reduceSub, Nat.reduceLT, Int.reduceEq, Int.reduceLT, Int.reduceLE, Int.reduceGT, Int.reduceGE, Int.reduceAdd, Int.reduceSub, Int.reduceMul, Int.reduceNeg, Int.reduceToNat, reduceCtorEq, reduceIte, lenV_sl H.h.k, lenV_sl H.h.p, lenV_sl H.h.b, elem_kd H.h.k, elem_pr H.h.p, elem_in H.h.b, view_sl H.h.k, view_sl H.h.p, view_sl H.h.b, scalar_sl H.h.k, scalar_sl H.h.p, scalar_sl H.h.b, cells_sl H.h.k, cells_sl H.h.p, cells_sl H.h.b, pure_sl H.h.k, pure_sl H.h.p, pure_sl H.h.b, Int.toNat_natCast, lenV_sl H.pk, view_sl H.pk, scalar_sl H.pk, cells_sl H.pk, pure_sl H.pk, H.bi.len, H.bi.sc, H.bi.ce, H.bi.pu, H.bi.vw, cc]
      by_cases hz : z ≤ mmx false N0 99
      case neg => simp (disch := first | assumption | omega | (simp only [az]; done)) only [ru, eq_self, if_true, if_false, BEq.rfl, binI, AO.row?, splice, fillL, mmAll, loadV, storeV, zeros, Am.rowAt, Am.part, addOff, Nat.reduceAdd, Nat.reduceMul, Nat.reduceLeDiff, Nat.reduceSub, Nat.reduceLT, Int.reduceEq, Int.reduceLT, Int.reduceLE, Int.reduceGT, Int.reduceGE, Int.reduceAdd, Int.reduceSub, Int.reduceMul, Int.reduceNeg, Int.reduceToNat, reduceCtorEq, reduceIte, hz, t15]
      obtain ⟨B, m, a12, b13, B1, B2, B3, B4, em⟩ := rnd z z0 (by omega)
      have er : (decide (z < N0) != decide (z < N0)) = false := by simp
      simp (disch := first | assumption | omega | (simp only [az]; done)) only [ru, eq_self, if_true, if_false, BEq.rfl, binI, AO.row?, splice, fillL, mmAll, loadV, storeV, zeros, Am.rowAt, Am.part, addOff, Nat.reduceAdd, Nat.reduceMul, Nat.reduceLeDiff, Nat.reduceSub, Nat.reduceLT, Int.reduceEq, Int.reduceLT, Int.reduceLE, Int.reduceGT, Int.reduceGE, Int.reduceAdd, Int.reduceSub, Int.reduceMul, Int.reduceNeg, Int.reduceToNat, reduceCtorEq, reduceIte, lenV_sl H.h.k, lenV_sl H.h.p, lenV_sl H.h.b, elem_kd H.h.k, elem_pr H.h.p, elem_in H.h.b, view_sl H.h.k, view_sl H.h.p, view_sl H.h.b, scalar_sl H.h.k, scalar_sl H.h.p, scalar_sl H.h.b, cells_sl H.h.k, cells_sl H.h.p, cells_sl H.h.b, pure_sl H.h.k, pure_sl H.h.p, pure_sl H.h.b, Int.toNat_natCast, lenV_sl H.pk, view_sl H.pk, scalar_sl H.pk, cells_sl H.pk, pure_sl H.pk, H.bi.len, H.bi.sc, H.bi.ce, H.bi.pu, H.bi.vw, cc, hz, a12, b13, lenV_sl sk, view_sl sk, scalar_sl sk, cells_sl sk, pure_sl sk, lenV_sl sp, view_sl sp, scalar_sl sp, cells_sl sp, pure_sl sp, lenV_sl sb, view_sl sb, scalar_sl sb, cells_sl sb, pure_sl sb, lenV_sl sq, view_sl sq, scalar_sl sq, cells_sl sq, pure_sl sq, B1, B2, B3, B4, em, er, GO_mcall1, hide, gUn]
      exact ih (101 - (z + 1)).toNat _ _ _ (by omega) ⟨z + 1, by omega, by omega, rfl, cc, rfl, rfl, rfl, rfl, rfl, rfl⟩
end
end Go.Proofs.Ytfagcnokdnanpaa.S

