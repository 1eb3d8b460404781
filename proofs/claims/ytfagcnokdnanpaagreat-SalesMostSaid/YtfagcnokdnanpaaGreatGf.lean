/-
SalesMost: the specification's Need, and the law.
-/
import Derived.Test.YtfagcnokdnanpaaGreatGe
import Derived.Test.YtfagcnokdnanpaaGreatFx
namespace Go.Proofs.YtfagcnokdnanpaaGreat.S
open Go Go.Am Go.Proofs.YtfagcnokdnanpaaGreat.T
set_option maxRecDepth 100000
set_option linter.unusedSimpArgs false
set_option linter.unusedVariables false
section
variable {f : Fs} {k p b pv bv : AV} {w : Nat → AV}
theorem wot_ge (G : FG f) {r : Int → Bool} {c : Int} : 0 ≤ wot f.bids r c ∧ wot f.bids r c ≤ 396 := by
  have h := best_ge G.bg (r := r) (pm := fun s => !decide (c ∈ s)) (s := []) isS_nil (by simp)
  have b := bsT_bd G.bg (r := r) (pm := fun s => !decide (c ∈ s))
  simp only [prc, List.map_nil, sm] at h
  unfold wot; omega
theorem wit_bd (G : FG f) {r : Int → Bool} {c : Int} : -1 ≤ wit f.bids r c ∧ wit f.bids r c ≤ 396 := bsT_bd G.bg
def needN (L : List Bi) (r : Int → Bool) (c : Int) : Int := if needE L r c then 100 else needF L r c
theorem needN_bd {L : List Bi} {r : Int → Bool} {c : Int} : 0 ≤ needN L r c ∧ needN L r c ≤ 100 := by
  unfold needN
  split
  · omega
  · rename_i h
    simp only [needE, Bool.or_eq_true, decide_eq_true_eq, not_or] at h
    have : 0 ≤ needF L r c := by unfold needF mx; split <;> omega
    omega
theorem need_off (G : FG f) {c z : Int} (c0 : 0 ≤ c) (hc : c < f.bids.length) (hz : 0 ≤ z ∧ z ≤ 99) : wonF (f.off c z).bids f.r c = 2 ↔ z < needN f.bids f.r c := by
  have o := off_best G c0 hc hz
  have wo := wot_ge G (r := f.r) (c := c)
  have wi := wit_bd G (r := f.r) (c := c)
  have e1 : wonF (f.off c z).bids f.r c = 2 ↔ wit (f.off c z).bids f.r c < wot (f.off c z).bids f.r c := by
    unfold wonF; split
    · rename_i h; exact ⟨fun _ => h, fun _ => rfl⟩
    · rename_i h; split
      · exact ⟨fun h => (by cases h), fun h' => absurd h' h⟩
      · exact ⟨fun h => (by cases h), fun h' => absurd h' h⟩
  rw [e1, o.2.2]
  obtain ⟨M, hM⟩ : ∃ M, M = needF f.bids f.r c := ⟨_, rfl⟩
  have m1 : 0 ≤ M ∧ wot f.bids f.r c - (wit f.bids f.r c - (bAt f.bids c).c) ≤ M ∧ (M = 0 ∨ M = wot f.bids f.r c - (wit f.bids f.r c - (bAt f.bids c).c)) := by
    rw [hM]; unfold needF mx; split <;> omega
  unfold needN needE
  rw [← hM]
  by_cases hw : wit f.bids f.r c ≥ 0
  · rw [o.1 hw]
    have : ¬ wit f.bids f.r c < 0 := by omega
    simp only [this, decide_false, Bool.false_or, decide_eq_true_eq]
    split <;> omega
  · rw [o.2.1 (by omega)]
    have : wit f.bids f.r c < 0 := by omega
    simp only [this, decide_true, Bool.true_or, if_true]
    omega
theorem allS_off {c z : Int} (c0 : 0 ≤ c) (hc : c < f.bids.length) : allS f.r (f.off c z).bids = allS f.r f.bids := by
  have e1 : isS f.r (f.off c z).bids = isS f.r f.bids := funext fun s => isS_off c0 hc
  have e2 : (f.off c z).bids.length = f.bids.length := by simp [Fs.off]
  unfold allS salT sals
  rw [e1, e2]
set_option maxHeartbeats 4000000 in
theorem t50 (H : FsOk f k p b pv bv w) (c : Int) : Iso E 50 [frV f k p b pv bv, I c] false = some (.tup [I (if askF f.valid (inR c 0 (f.bids.length - 1)) = 0 ∧ needE f.bids f.r c = false then needF f.bids f.r c else 0), I (if askF f.valid (inR c 0 (f.bids.length - 1)) = 0 then (if needE f.bids f.r c then 3 else 0) else askF f.valid (inR c 0 (f.bids.length - 1)))]) := by
  have a85 := fun st => t85 H c st
  have a84 := fun q st => t84 H q st
  simp only [frV] at a85 a84
  refine Iso_of (es _ _ _ _) e50 ?_
  simp only [f50]
  by_cases h : askF f.valid (inR c 0 (f.bids.length - 1)) = 0
  case neg =>
    have h' : (askF f.valid (inR c 0 (f.bids.length - 1)) != 0) = true := by rw [bne_iff_ne]; exact h
    rw [if_neg h, if_neg (fun x => h x.1)]
    simp (disch := first | assumption | omega | (simp only [az]; done)) only [ru, eq_self, if_true, if_false, BEq.rfl, binI, AO.row?, splice, fillL, mmAll, loadV, storeV, zeros, Am.rowAt, Am.part, addOff, Nat.reduceAdd, Nat.reduceMul, Nat.reduceLeDiff, Nat.reduceSub, Nat.reduceLT, Int.reduceEq, Int.reduceLT, Int.reduceLE, Int.reduceGT, Int.reduceGE, Int.reduceAdd, Int.reduceSub, Int.reduceMul, Int.reduceNeg, Int.reduceToNat, reduceCtorEq, reduceIte, lenV_sl H.h.k, lenV_sl H.h.p, lenV_sl H.h.b, elem_kd H.h.k, elem_pr H.h.p, elem_in H.h.b, view_sl H.h.k, view_sl H.h.p, view_sl H.h.b, scalar_sl H.h.k, scalar_sl H.h.p, scalar_sl H.h.b, cells_sl H.h.k, cells_sl H.h.p, cells_sl H.h.b, pure_sl H.h.k, pure_sl H.h.p, pure_sl H.h.b, Int.toNat_natCast, lenV_sl H.pk, view_sl H.pk, scalar_sl H.pk, cells_sl H.pk, pure_sl H.pk, H.bi.len, H.bi.sc, H.bi.ce, H.bi.pu, H.bi.vw, a85, a84, h', fin2]
    try rfl
  have hv : f.valid = true := by
    cases hv : f.valid
    · rw [hv] at h; simp [askF] at h
    · rfl
  have hu : inR c 0 (f.bids.length - 1) = true := by
    cases hu : inR c 0 (f.bids.length - 1)
    · rw [hv, hu] at h; simp [askF] at h
    · rfl
  have hcr := inR_iff.1 hu
  have c0 : 0 ≤ c := hcr.1
  have hc : c < f.bids.length := by omega
  have G := fvalid_iff hv
  have a87 := t87 H G
  obtain ⟨W, hW⟩ : ∃ W, W = resLL (allS f.r f.bids) := ⟨_, rfl⟩
  have WI : IsSl 1 resE (allS f.r f.bids) W := by rw [hW]; exact resLL_is2 _
  rw [← hW] at a87
  simp only [frV] at a87
  rw [if_pos h]
  simp only [h, true_and, if_true]
  have nd := needN_bd (L := f.bids) (r := f.r) (c := c)
  have rnd : ∀ z : Int, 0 ≤ z → z ≤ 99 → ∃ (B : AV) (m : Int), (Iso E 28 [.agg [k, I f.h.fl, p, b, pv, I f.d, I f.n, bv], I c, I z] false = some (.agg [hsK f, I f.h.fl, hsP f, hsB f, slV 1 intL f.pk, I f.d, I f.n, B])) ∧ (Iso E 86 [.agg [hsK f, I f.h.fl, hsP f, hsB f, slV 1 intL f.pk, I f.d, I f.n, B], W, I c] false = some (I m)) ∧ B.scalar = true ∧ B.cells = [B] ∧ (∀ (g : List AO) (n : Nat), view false g n B = some B) ∧ B.pureV = true ∧ (m = 2 ↔ z < needN f.bids f.r c) := fun z z0 z9 => by
    obtain ⟨w', K'⟩ := H.off (z := z) c0 hc
    have a28 := t28 H c0 hc z
    have b86 := t86 K' (G.off c0 hc ⟨z0, z9⟩) (l := allS f.r f.bids) (allS_off c0 hc).symm WI c
    exact ⟨resB (f.off c z).bids, wonF (f.off c z).bids f.r c, a28, b86, K'.bi.sc, K'.bi.ce, fun g n => K'.bi.vw g _, K'.bi.pu, need_off G c0 hc ⟨z0, z9⟩⟩
  obtain ⟨N0, hN⟩ : ∃ N0, N0 = needN f.bids f.r c := ⟨_, rfl⟩
  simp only [← hN] at rnd nd
  have fin1 : N0 ≤ 99 → needE f.bids f.r c = false ∧ needF f.bids f.r c = N0 := fun hle => by
    unfold needN at hN
    cases he : needE f.bids f.r c
    · rw [he] at hN; exact ⟨rfl, hN.symm⟩
    · rw [he] at hN; simp at hN; omega
  have fin3 : N0 = 100 → needE f.bids f.r c = true := fun hle => by
    unfold needN at hN
    cases he : needE f.bids f.r c
    · rw [he] at hN
      simp only [Bool.false_eq_true, if_false] at hN
      simp only [needE, Bool.or_eq_false_iff, decide_eq_false_iff_not] at he
      omega
    · rfl
  clear hN
  have sk : IsSl 2 Kd.e f.h.ks (slV 2 Kd.e f.h.ks) := slV_is
  have sp : IsSl 2 Pr.e f.h.ps (slV 2 Pr.e f.h.ps) := slV_is
  have sb : IsSl 1 intL f.h.bs (slV 1 intL f.h.bs) := slV_is
  have sq : IsSl 1 intL f.pk (slV 1 intL f.pk) := slV_is
  have a84' := fun st => a84 (inR c 0 (f.bids.length - 1)) st
  rw [h] at a84'
  simp (disch := first | assumption | omega | (simp only [az]; done)) only [ru, eq_self, if_true, if_false, BEq.rfl, binI, AO.row?, splice, fillL, mmAll, loadV, storeV, zeros, Am.rowAt, Am.part, addOff, Nat.reduceAdd, Nat.reduceMul, Nat.reduceLeDiff, Nat.reduceSub, Nat.reduceLT, Int.reduceEq, Int.reduceLT, Int.reduceLE, Int.reduceGT, Int.reduceGE, Int.reduceAdd, Int.reduceSub, Int.reduceMul, Int.reduceNeg, Int.reduceToNat, reduceCtorEq, reduceIte, lenV_sl H.h.k, lenV_sl H.h.p, lenV_sl H.h.b, elem_kd H.h.k, elem_pr H.h.p, elem_in H.h.b, view_sl H.h.k, view_sl H.h.p, view_sl H.h.b, scalar_sl H.h.k, scalar_sl H.h.p, scalar_sl H.h.b, cells_sl H.h.k, cells_sl H.h.p, cells_sl H.h.b, pure_sl H.h.k, pure_sl H.h.p, pure_sl H.h.b, Int.toNat_natCast, lenV_sl H.pk, view_sl H.pk, scalar_sl H.pk, cells_sl H.pk, pure_sl H.pk, H.bi.len, H.bi.sc, H.bi.ce, H.bi.pu, H.bi.vw, lenV_sl WI, view_sl WI, scalar_sl WI, cells_sl WI, pure_sl WI, a85, a84', a87]
  refine G_loop_ind (fun y ts hk mk => ∃ (z : Int), 0 ≤ z ∧ z ≤ 100 ∧ z ≤ N0 ∧ y = (101 - z).toNat ∧ hk[0]? = some (.cells [k, I f.h.fl, p, b, pv, I f.d, I f.n, bv] false) ∧
      ts.length = 32 ∧ ts.getD 1 .undef = I c ∧ ts.getD 2 .undef = .ptr 0 0 ∧ ts.getD 7 .undef = W ∧ ts.getD 8 .undef = I z ∧ mk = []) ?_ 101 _ _ _ ⟨0, by omega, by omega, by omega, rfl, rfl, rfl, rfl, rfl, rfl, rfl, rfl⟩
  rintro y ts hk mk ih ⟨z, z0, z1, zN, rfl, cc, hlt', q1, q2, q7, q8, rfl⟩
  rw [lit_all hlt']
  simp only [lit0, litS, Nat.reduceAdd, q1, q2, q7, q8]
  simp (disch := first | assumption | omega | (simp only [az]; done)) only [ru, eq_self, if_true, if_false, BEq.rfl, binI, AO.row?, splice, fillL, mmAll, loadV, storeV, zeros, Am.rowAt, Am.part, addOff, Nat.reduceAdd, Nat.reduceMul, Nat.reduceLeDiff, Nat.reduceSub, Nat.reduceLT, Int.reduceEq, Int.reduceLT, Int.reduceLE, Int.reduceGT, Int.reduceGE, Int.reduceAdd, Int.reduceSub, Int.reduceMul, Int.reduceNeg, Int.reduceToNat, reduceCtorEq, reduceIte, lenV_sl H.h.k, lenV_sl H.h.p, lenV_sl H.h.b, elem_kd H.h.k, elem_pr H.h.p, elem_in H.h.b, view_sl H.h.k, view_sl H.h.p, view_sl H.h.b, scalar_sl H.h.k, scalar_sl H.h.p, scalar_sl H.h.b, cells_sl H.h.k, cells_sl H.h.p, cells_sl H.h.b, pure_sl H.h.k, pure_sl H.h.p, pure_sl H.h.b, Int.toNat_natCast, lenV_sl H.pk, view_sl H.pk, scalar_sl H.pk, cells_sl H.pk, pure_sl H.pk, H.bi.len, H.bi.sc, H.bi.ce, H.bi.pu, H.bi.vw, cc]
  by_cases hz : z ≤ 99
  case neg =>
    have he := fin3 (by omega)
    simp only [he]
    simp (disch := first | assumption | omega | (simp only [az]; done)) only [ru, eq_self, if_true, if_false, BEq.rfl, binI, AO.row?, splice, fillL, mmAll, loadV, storeV, zeros, Am.rowAt, Am.part, addOff, Nat.reduceAdd, Nat.reduceMul, Nat.reduceLeDiff, Nat.reduceSub, Nat.reduceLT, Int.reduceEq, Int.reduceLT, Int.reduceLE, Int.reduceGT, Int.reduceGE, Int.reduceAdd, Int.reduceSub, Int.reduceMul, Int.reduceNeg, Int.reduceToNat, reduceCtorEq, reduceIte, hz, fin2]
    try rfl
  obtain ⟨B, m, a28, a86, B1, B2, B3, B4, em⟩ := rnd z z0 hz
  by_cases hm : m = 2
  · have hm' : (m != 2) = false := by rw [bne_eq_false_iff_eq]; exact hm
    have := em.1 hm
    simp (disch := first | assumption | omega | (simp only [az]; done)) only [ru, eq_self, if_true, if_false, BEq.rfl, binI, AO.row?, splice, fillL, mmAll, loadV, storeV, zeros, Am.rowAt, Am.part, addOff, Nat.reduceAdd, Nat.reduceMul, Nat.reduceLeDiff, Nat.reduceSub, Nat.reduceLT, Int.reduceEq, Int.reduceLT, Int.reduceLE, Int.reduceGT, Int.reduceGE, Int.reduceAdd, Int.reduceSub, Int.reduceMul, Int.reduceNeg, Int.reduceToNat, reduceCtorEq, reduceIte, lenV_sl H.h.k, lenV_sl H.h.p, lenV_sl H.h.b, elem_kd H.h.k, elem_pr H.h.p, elem_in H.h.b, view_sl H.h.k, view_sl H.h.p, view_sl H.h.b, scalar_sl H.h.k, scalar_sl H.h.p, scalar_sl H.h.b, cells_sl H.h.k, cells_sl H.h.p, cells_sl H.h.b, pure_sl H.h.k, pure_sl H.h.p, pure_sl H.h.b, Int.toNat_natCast, lenV_sl H.pk, view_sl H.pk, scalar_sl H.pk, cells_sl H.pk, pure_sl H.pk, H.bi.len, H.bi.sc, H.bi.ce, H.bi.pu, H.bi.vw, lenV_sl WI, view_sl WI, scalar_sl WI, cells_sl WI, pure_sl WI, cc, hz, a28, a86, lenV_sl sk, view_sl sk, scalar_sl sk, cells_sl sk, pure_sl sk, lenV_sl sp, view_sl sp, scalar_sl sp, cells_sl sp, pure_sl sp, lenV_sl sb, view_sl sb, scalar_sl sb, cells_sl sb, pure_sl sb, lenV_sl sq, view_sl sq, scalar_sl sq, cells_sl sq, pure_sl sq, B1, B2, B3, B4, hm', GO_mcall1, hide]
    exact ih (101 - (z + 1)).toNat _ _ _ (by omega) ⟨z + 1, by omega, by omega, by omega, rfl, cc, rfl, rfl, rfl, rfl, rfl, rfl⟩
  · have hm' : (m != 2) = true := by rw [bne_iff_ne]; exact hm
    have hzN : z = N0 := by
      have : ¬ z < N0 := fun h => hm (em.2 h)
      omega
    obtain ⟨h1, h2⟩ := fin1 (by omega)
    simp only [h1, h2]
    simp (disch := first | assumption | omega | (simp only [az]; done)) only [ru, eq_self, if_true, if_false, BEq.rfl, binI, AO.row?, splice, fillL, mmAll, loadV, storeV, zeros, Am.rowAt, Am.part, addOff, Nat.reduceAdd, Nat.reduceMul, Nat.reduceLeDiff, Nat.reduceSub, Nat.reduceLT, Int.reduceEq, Int.reduceLT, Int.reduceLE, Int.reduceGT, Int.reduceGE, Int.reduceAdd, Int.reduceSub, Int.reduceMul, Int.reduceNeg, Int.reduceToNat, reduceCtorEq, reduceIte, lenV_sl H.h.k, lenV_sl H.h.p, lenV_sl H.h.b, elem_kd H.h.k, elem_pr H.h.p, elem_in H.h.b, view_sl H.h.k, view_sl H.h.p, view_sl H.h.b, scalar_sl H.h.k, scalar_sl H.h.p, scalar_sl H.h.b, cells_sl H.h.k, cells_sl H.h.p, cells_sl H.h.b, pure_sl H.h.k, pure_sl H.h.p, pure_sl H.h.b, Int.toNat_natCast, lenV_sl H.pk, view_sl H.pk, scalar_sl H.pk, cells_sl H.pk, pure_sl H.pk, H.bi.len, H.bi.sc, H.bi.ce, H.bi.pu, H.bi.vw, lenV_sl WI, view_sl WI, scalar_sl WI, cells_sl WI, pure_sl WI, cc, hz, a28, a86, lenV_sl sk, view_sl sk, scalar_sl sk, cells_sl sk, pure_sl sk, lenV_sl sp, view_sl sp, scalar_sl sp, cells_sl sp, pure_sl sp, lenV_sl sb, view_sl sb, scalar_sl sb, cells_sl sb, pure_sl sb, lenV_sl sq, view_sl sq, scalar_sl sq, cells_sl sq, pure_sl sq, B1, B2, B3, B4, hm', GO_mcall1, hide, fin2]
    rw [hzN]
set_option maxHeartbeats 4000000 in
theorem l10 (H0 : FsIn f k p b pv bv w) (c : Int) : Iso E 10 [frV f k p b pv bv, I c] false = some (Bo true) := by
  have a37 := fun st => t37 H0 st
  simp only [frV] at a37
  refine Iso_of (es _ _ _ _) e10 ?_
  simp only [f10]
  cases hh : f.huge
  case true =>
    rw [hh] at a37
    simp (disch := first | assumption | omega | (simp only [az]; done)) only [ru, eq_self, if_true, if_false, BEq.rfl, binI, AO.row?, splice, fillL, mmAll, loadV, storeV, zeros, Am.rowAt, Am.part, addOff, Nat.reduceAdd, Nat.reduceMul, Nat.reduceLeDiff, Nat.reduceSub, Nat.reduceLT, Int.reduceEq, Int.reduceLT, Int.reduceLE, Int.reduceGT, Int.reduceGE, Int.reduceAdd, Int.reduceSub, Int.reduceMul, Int.reduceNeg, Int.reduceToNat, reduceCtorEq, reduceIte, lenV_sl H0.h.k, lenV_sl H0.h.p, lenV_sl H0.h.b, elem_kd H0.h.k, elem_pr H0.h.p, elem_in H0.h.b, view_sl H0.h.k, view_sl H0.h.p, view_sl H0.h.b, scalar_sl H0.h.k, scalar_sl H0.h.p, scalar_sl H0.h.b, cells_sl H0.h.k, cells_sl H0.h.p, cells_sl H0.h.b, pure_sl H0.h.k, pure_sl H0.h.p, pure_sl H0.h.b, Int.toNat_natCast, lenV_sl H0.pk, view_sl H0.pk, scalar_sl H0.pk, cells_sl H0.pk, pure_sl H0.pk, H0.bi.len, H0.bi.sc, H0.bi.ce, H0.bi.pu, H0.bi.vw, a37, t15, gUn]
  rw [hh] at a37
  have H := hugeF_ok H0 hh
  have nb := H.nb
  obtain ⟨wc, Hc⟩ := cpF_ok H
  have a33 := t33 H
  have a44 := fun st => t44 Hc st
  have a45 := t45 H
  have a46 := t46 Hc
  have a47 := t47 H
  have a21 := fun st => t21 Hc c st
  have a48 := t48 H c
  have a49 := fun st => t49 Hc c st
  have a50 := t50 H c
  have a43 := fun st => t43 Hc H st
  obtain ⟨u1, u2, U, U2, e1, e2⟩ : ∃ u1 u2, IsSl 1 intL (if f.valid then wins f.bids f.r else []) u1 ∧ IsSl 1 intL (if f.valid then wins f.bids f.r else []) u2 ∧ u1 = (if f.valid then bV (bsT f.bids (fun _ => true) (allS f.r f.bids)) else .nils) ∧ u2 = (if f.valid then resL (wins f.bids f.r) else .nils) := by
    refine ⟨_, _, ?_, ?_, rfl, rfl⟩
    · cases hv : f.valid
      · exact .inr ⟨rfl, rfl⟩
      · have G := fvalid_iff hv
        exact bV_is (p := fun _ => true) fun s hs => (sale_bd G.bg (mem_allS.1 hs)).1
    · split
      · exact resL_is _
      · exact .inr ⟨rfl, rfl⟩
  have a35 := fun st => s28 U U2 (by cases hv : f.valid
                                     · simp
                                     · have G := fvalid_iff hv
                                       have := isS_lenL (wins_is G.bg (r := f.r)).1
                                       simp only [if_true]; omega) st
  rw [← e1] at a46
  rw [← e2] at a47
  simp only [cpF, frV] at a33 a44 a45 a46 a47 a21 a48 a49 a50 a43
  obtain ⟨e, he⟩ : ∃ e, e = fE f.valid := ⟨_, rfl⟩
  obtain ⟨T, hT⟩ : ∃ e, e = (if f.valid then tops f.bids f.r else 0) := ⟨_, rfl⟩
  obtain ⟨A, hA⟩ : ∃ e, e = askF f.valid (inR c 0 (f.bids.length - 1)) := ⟨_, rfl⟩
  simp only [← he, ← hT] at a44 a45 a46 a47
  simp only [← hA] at a21 a48 a49 a50
  obtain ⟨X, hX⟩ : ∃ e, e = (if A = 0 then wonF f.bids f.r c else 0) := ⟨_, rfl⟩
  obtain ⟨Y, hY⟩ : ∃ e, e = (if A = 0 ∧ needE f.bids f.r c = false then needF f.bids f.r c else 0) := ⟨_, rfl⟩
  obtain ⟨Z, hZ⟩ : ∃ e : Int, e = (if A = 0 then (if needE f.bids f.r c then 3 else 0) else A) := ⟨_, rfl⟩
  simp only [← hX] at a21 a48
  simp only [← hY, ← hZ] at a49 a50
  obtain ⟨B, hB⟩ : ∃ B, B = resB f.bids := ⟨_, rfl⟩
  have B1 : B.scalar = true := by rw [hB]; exact Hc.bi.sc
  have B2 : B.cells = [B] := by rw [hB]; exact Hc.bi.ce
  have B3 : ∀ (g : List AO) (n : Nat), view false g n B = some B := fun g n => by rw [hB]; exact Hc.bi.vw g _
  have B4 : B.pureV = true := by rw [hB]; exact Hc.bi.pu
  rw [← hB] at a33 a44 a46 a21 a49 a43
  have sk : IsSl 2 Kd.e f.h.ks (slV 2 Kd.e f.h.ks) := slV_is
  have sp : IsSl 2 Pr.e f.h.ps (slV 2 Pr.e f.h.ps) := slV_is
  have sb : IsSl 1 intL f.h.bs (slV 1 intL f.h.bs) := slV_is
  have sq : IsSl 1 intL f.pk (slV 1 intL f.pk) := slV_is
  clear hT hA hX hY hZ hB e1 e2 he
  have q1 : ∀ x : Int, (x != x) = false := fun x => by simp
  have q2 : ∀ x : Int, (x == x) = true := fun x => by simp
  simp (disch := first | assumption | omega | (simp only [az]; done)) only [ru, eq_self, if_true, if_false, BEq.rfl, binI, AO.row?, splice, fillL, mmAll, loadV, storeV, zeros, Am.rowAt, Am.part, addOff, Nat.reduceAdd, Nat.reduceMul, Nat.reduceLeDiff, Nat.reduceSub, Nat.reduceLT, Int.reduceEq, Int.reduceLT, Int.reduceLE, Int.reduceGT, Int.reduceGE, Int.reduceAdd, Int.reduceSub, Int.reduceMul, Int.reduceNeg, Int.reduceToNat, reduceCtorEq, reduceIte, lenV_sl H.h.k, lenV_sl H.h.p, lenV_sl H.h.b, elem_kd H.h.k, elem_pr H.h.p, elem_in H.h.b, view_sl H.h.k, view_sl H.h.p, view_sl H.h.b, scalar_sl H.h.k, scalar_sl H.h.p, scalar_sl H.h.b, cells_sl H.h.k, cells_sl H.h.p, cells_sl H.h.b, pure_sl H.h.k, pure_sl H.h.p, pure_sl H.h.b, Int.toNat_natCast, lenV_sl H.pk, view_sl H.pk, scalar_sl H.pk, cells_sl H.pk, pure_sl H.pk, H.bi.len, H.bi.sc, H.bi.ce, H.bi.pu, H.bi.vw, lenV_sl U, view_sl U, scalar_sl U, cells_sl U, pure_sl U, lenV_sl U2, view_sl U2, scalar_sl U2, cells_sl U2, pure_sl U2, lenV_sl sk, view_sl sk, scalar_sl sk, cells_sl sk, pure_sl sk, lenV_sl sp, view_sl sp, scalar_sl sp, cells_sl sp, pure_sl sp, lenV_sl sb, view_sl sb, scalar_sl sb, cells_sl sb, pure_sl sb, lenV_sl sq, view_sl sq, scalar_sl sq, cells_sl sq, pure_sl sq, B1, B2, B3, B4, a37, gUn, a33, GO_mcall1, hide, a44, a45, a46, a47, a35, q1, q2, a21, a48, a49, a50, a43, Bool.not_true, t15]
  done
end
end Go.Proofs.YtfagcnokdnanpaaGreat.S
