/-
The law of what the anchors tear.
-/
import Derived.Test.YtmldjpeiokciiaaVd
import Derived.Test.YtmldjpeiokciiaaVc
namespace Go.Proofs.Ytmldjpeiokciiaa.S
open Go Go.Am Go.Proofs.Ytmldjpeiokciiaa.T
set_option maxRecDepth 100000
set_option linter.unusedSimpArgs false
set_option linter.unusedVariables false
attribute [local irreducible] Go.Am.G Go.Am.GO Go.Am.GG Go.Am.GC Go.Am.GP Go.Am.GX

theorem nr_ok {m : Int} {L : List Hl} {v : AV} (HV : IsSl 4 Hl.e L v) (hl : L.length ≤ 41) : NetOk (nr m L) v .nils := ⟨⟨HV, .inr ⟨rfl, rfl⟩⟩, hl, by show 0 ≤ 41; omega⟩

set_option maxHeartbeats 8000000 in
theorem sTop {n : A.Net} {g a w : AV} (N0 : A.NetIn n g a w) {t u : A.Tru} {tv uv : AV} (T0 : A.TruIn t tv) (U0 : A.TruIn u uv) {L : List Hl} {hv : AV} (HV : IsSl 4 Hl.e L hv) (m : Int) :
    Iso E 3 [A.netV n g a w, .agg [I t.wind, I t.cur, tv, I u.wind, I u.cur, uv, hv, I m]] false = some (Bo true) := by
  have ng := N0.g; have na := N0.a; have nw := N0.w
  have tvs := T0.s; have uvs := U0.s
  have d11 := sTorn
  have c4 := fun st => A.s15 ng na nw tvs t.wind t.cur st
  have c5 := fun st => A.s15 ng na nw uvs u.wind u.cur st
  simp only [A.netV] at c4 c5
  obtain ⟨b1, hb1⟩ : ∃ b, b = (decide ((n.grips.length : Int) > 40) || (decide ((n.ancs.length : Int) > 40) || (decide ((n.walls.length : Int) > 40) || decide ((t.grips.length : Int) > 40)))) := ⟨_, rfl⟩
  obtain ⟨b2, hb2⟩ : ∃ b, b = (decide ((n.grips.length : Int) > 40) || (decide ((n.ancs.length : Int) > 40) || (decide ((n.walls.length : Int) > 40) || decide ((u.grips.length : Int) > 40)))) := ⟨_, rfl⟩
  rw [← hb1] at c4
  rw [← hb2] at c5
  cases b1
  case true =>
    refine Iso_of (es _ _ _ _) e3 ?_
    simp only [f3, A.netV]
    simp (disch := first | assumption | omega | (simp only [az]; done)) only [ru, eq_self, if_true, if_false, BEq.rfl, binI, AO.row?, splice, fillL, mmAll, loadV, storeV, zeros, Am.rowAt, Am.part, addOff, Nat.reduceAdd, Nat.reduceMul, Nat.reduceLeDiff, Nat.reduceSub, Nat.reduceLT, Int.reduceEq, Int.reduceLT, Int.reduceLE, Int.reduceGT, Int.reduceGE, Int.reduceAdd, Int.reduceSub, Int.reduceMul, Int.reduceNeg, Int.reduceToNat, reduceCtorEq, reduceIte, lenV_sl ng, view_sl ng, scalar_sl ng, cells_sl ng, pure_sl ng, lenV_sl na, view_sl na, scalar_sl na, cells_sl na, pure_sl na, lenV_sl nw, view_sl nw, scalar_sl nw, cells_sl nw, pure_sl nw, lenV_sl tvs, view_sl tvs, scalar_sl tvs, cells_sl tvs, pure_sl tvs, lenV_sl uvs, view_sl uvs, scalar_sl uvs, cells_sl uvs, pure_sl uvs, lenV_sl HV, view_sl HV, scalar_sl HV, cells_sl HV, pure_sl HV, c4, d11, gUn]
  cases b2
  case true =>
    refine Iso_of (es _ _ _ _) e3 ?_
    simp only [f3, A.netV]
    simp (disch := first | assumption | omega | (simp only [az]; done)) only [ru, eq_self, if_true, if_false, BEq.rfl, binI, AO.row?, splice, fillL, mmAll, loadV, storeV, zeros, Am.rowAt, Am.part, addOff, Nat.reduceAdd, Nat.reduceMul, Nat.reduceLeDiff, Nat.reduceSub, Nat.reduceLT, Int.reduceEq, Int.reduceLT, Int.reduceLE, Int.reduceGT, Int.reduceGE, Int.reduceAdd, Int.reduceSub, Int.reduceMul, Int.reduceNeg, Int.reduceToNat, reduceCtorEq, reduceIte, lenV_sl ng, view_sl ng, scalar_sl ng, cells_sl ng, pure_sl ng, lenV_sl na, view_sl na, scalar_sl na, cells_sl na, pure_sl na, lenV_sl nw, view_sl nw, scalar_sl nw, cells_sl nw, pure_sl nw, lenV_sl tvs, view_sl tvs, scalar_sl tvs, cells_sl tvs, pure_sl tvs, lenV_sl uvs, view_sl uvs, scalar_sl uvs, cells_sl uvs, pure_sl uvs, lenV_sl HV, view_sl HV, scalar_sl HV, cells_sl HV, pure_sl HV, c4, c5, d11, gUn]
  have hs1 := hb1.symm
  have hs2 := hb2.symm
  simp only [Bool.or_eq_false_iff, decide_eq_false_iff_not] at hs1 hs2
  have HN : A.NetOk n g a w := ⟨ng, na, nw, by omega, by omega, by omega⟩
  have HT : A.TruOk t tv := ⟨tvs, by omega⟩
  have HU : A.TruOk u uv := ⟨uvs, by omega⟩
  have c7 := fun st => A.s19 HN st
  simp only [A.netV] at c7
  clear hb1 hb2
  cases hnv : n.valid
  · simp only [hnv, Bool.false_eq_true, if_false] at c7
    refine Iso_of (es _ _ _ _) e3 ?_
    simp only [f3, A.netV]
    simp (disch := first | assumption | omega | (simp only [az]; done)) only [ru, eq_self, if_true, if_false, BEq.rfl, binI, AO.row?, splice, fillL, mmAll, loadV, storeV, zeros, Am.rowAt, Am.part, addOff, Nat.reduceAdd, Nat.reduceMul, Nat.reduceLeDiff, Nat.reduceSub, Nat.reduceLT, Int.reduceEq, Int.reduceLT, Int.reduceLE, Int.reduceGT, Int.reduceGE, Int.reduceAdd, Int.reduceSub, Int.reduceMul, Int.reduceNeg, Int.reduceToNat, reduceCtorEq, reduceIte, lenV_sl ng, view_sl ng, scalar_sl ng, cells_sl ng, pure_sl ng, lenV_sl na, view_sl na, scalar_sl na, cells_sl na, pure_sl na, lenV_sl nw, view_sl nw, scalar_sl nw, cells_sl nw, pure_sl nw, lenV_sl tvs, view_sl tvs, scalar_sl tvs, cells_sl tvs, pure_sl tvs, lenV_sl uvs, view_sl uvs, scalar_sl uvs, cells_sl uvs, pure_sl uvs, lenV_sl HV, view_sl HV, scalar_sl HV, cells_sl HV, pure_sl HV, c4, c5, c7, d11, gUn]
  simp only [hnv, if_true] at c7
  have c8 := fun st => A.s102 HN HT st
  have c9 := fun st => A.s102 HN HU st
  simp only [A.netV] at c8 c9
  cases ht : A.truthOk n t
  · rw [ht] at c8
    refine Iso_of (es _ _ _ _) e3 ?_
    simp only [f3, A.netV]
    simp (disch := first | assumption | omega | (simp only [az]; done)) only [ru, eq_self, if_true, if_false, BEq.rfl, binI, AO.row?, splice, fillL, mmAll, loadV, storeV, zeros, Am.rowAt, Am.part, addOff, Nat.reduceAdd, Nat.reduceMul, Nat.reduceLeDiff, Nat.reduceSub, Nat.reduceLT, Int.reduceEq, Int.reduceLT, Int.reduceLE, Int.reduceGT, Int.reduceGE, Int.reduceAdd, Int.reduceSub, Int.reduceMul, Int.reduceNeg, Int.reduceToNat, reduceCtorEq, reduceIte, lenV_sl ng, view_sl ng, scalar_sl ng, cells_sl ng, pure_sl ng, lenV_sl na, view_sl na, scalar_sl na, cells_sl na, pure_sl na, lenV_sl nw, view_sl nw, scalar_sl nw, cells_sl nw, pure_sl nw, lenV_sl tvs, view_sl tvs, scalar_sl tvs, cells_sl tvs, pure_sl tvs, lenV_sl uvs, view_sl uvs, scalar_sl uvs, cells_sl uvs, pure_sl uvs, lenV_sl HV, view_sl HV, scalar_sl HV, cells_sl HV, pure_sl HV, c4, c5, c7, c8, d11, gUn]
  rw [ht] at c8
  cases hu : A.truthOk n u
  · rw [hu] at c9
    refine Iso_of (es _ _ _ _) e3 ?_
    simp only [f3, A.netV]
    simp (disch := first | assumption | omega | (simp only [az]; done)) only [ru, eq_self, if_true, if_false, BEq.rfl, binI, AO.row?, splice, fillL, mmAll, loadV, storeV, zeros, Am.rowAt, Am.part, addOff, Nat.reduceAdd, Nat.reduceMul, Nat.reduceLeDiff, Nat.reduceSub, Nat.reduceLT, Int.reduceEq, Int.reduceLT, Int.reduceLE, Int.reduceGT, Int.reduceGE, Int.reduceAdd, Int.reduceSub, Int.reduceMul, Int.reduceNeg, Int.reduceToNat, reduceCtorEq, reduceIte, lenV_sl ng, view_sl ng, scalar_sl ng, cells_sl ng, pure_sl ng, lenV_sl na, view_sl na, scalar_sl na, cells_sl na, pure_sl na, lenV_sl nw, view_sl nw, scalar_sl nw, cells_sl nw, pure_sl nw, lenV_sl tvs, view_sl tvs, scalar_sl tvs, cells_sl tvs, pure_sl tvs, lenV_sl uvs, view_sl uvs, scalar_sl uvs, cells_sl uvs, pure_sl uvs, lenV_sl HV, view_sl HV, scalar_sl HV, cells_sl HV, pure_sl HV, c4, c5, c7, c8, c9, d11, gUn]
  rw [hu] at c9
  have Gt := A.good_of hnv ht
  have Gu := A.good_of hnv hu
  by_cases hw : u.wind > t.wind
  ·
    refine Iso_of (es _ _ _ _) e3 ?_
    simp only [f3, A.netV]
    simp (disch := first | assumption | omega | (simp only [az]; done)) only [ru, eq_self, if_true, if_false, BEq.rfl, binI, AO.row?, splice, fillL, mmAll, loadV, storeV, zeros, Am.rowAt, Am.part, addOff, Nat.reduceAdd, Nat.reduceMul, Nat.reduceLeDiff, Nat.reduceSub, Nat.reduceLT, Int.reduceEq, Int.reduceLT, Int.reduceLE, Int.reduceGT, Int.reduceGE, Int.reduceAdd, Int.reduceSub, Int.reduceMul, Int.reduceNeg, Int.reduceToNat, reduceCtorEq, reduceIte, lenV_sl ng, view_sl ng, scalar_sl ng, cells_sl ng, pure_sl ng, lenV_sl na, view_sl na, scalar_sl na, cells_sl na, pure_sl na, lenV_sl nw, view_sl nw, scalar_sl nw, cells_sl nw, pure_sl nw, lenV_sl tvs, view_sl tvs, scalar_sl tvs, cells_sl tvs, pure_sl tvs, lenV_sl uvs, view_sl uvs, scalar_sl uvs, cells_sl uvs, pure_sl uvs, lenV_sl HV, view_sl HV, scalar_sl HV, cells_sl HV, pure_sl HV, c4, c5, c7, c8, c9, hw, d11, gUn]
  by_cases hc : u.cur > t.cur
  ·
    refine Iso_of (es _ _ _ _) e3 ?_
    simp only [f3, A.netV]
    simp (disch := first | assumption | omega | (simp only [az]; done)) only [ru, eq_self, if_true, if_false, BEq.rfl, binI, AO.row?, splice, fillL, mmAll, loadV, storeV, zeros, Am.rowAt, Am.part, addOff, Nat.reduceAdd, Nat.reduceMul, Nat.reduceLeDiff, Nat.reduceSub, Nat.reduceLT, Int.reduceEq, Int.reduceLT, Int.reduceLE, Int.reduceGT, Int.reduceGE, Int.reduceAdd, Int.reduceSub, Int.reduceMul, Int.reduceNeg, Int.reduceToNat, reduceCtorEq, reduceIte, lenV_sl ng, view_sl ng, scalar_sl ng, cells_sl ng, pure_sl ng, lenV_sl na, view_sl na, scalar_sl na, cells_sl na, pure_sl na, lenV_sl nw, view_sl nw, scalar_sl nw, cells_sl nw, pure_sl nw, lenV_sl tvs, view_sl tvs, scalar_sl tvs, cells_sl tvs, pure_sl tvs, lenV_sl uvs, view_sl uvs, scalar_sl uvs, cells_sl uvs, pure_sl uvs, lenV_sl HV, view_sl HV, scalar_sl HV, cells_sl HV, pure_sl HV, c4, c5, c7, c8, c9, hw, hc, d11, gUn]
  by_cases hl : (L.length : Int) = n.ancs.length
  case neg =>
    refine Iso_of (es _ _ _ _) e3 ?_
    simp only [f3, A.netV]
    simp (disch := first | assumption | omega | (simp only [az]; done)) only [ru, eq_self, if_true, if_false, BEq.rfl, binI, AO.row?, splice, fillL, mmAll, loadV, storeV, zeros, Am.rowAt, Am.part, addOff, Nat.reduceAdd, Nat.reduceMul, Nat.reduceLeDiff, Nat.reduceSub, Nat.reduceLT, Int.reduceEq, Int.reduceLT, Int.reduceLE, Int.reduceGT, Int.reduceGE, Int.reduceAdd, Int.reduceSub, Int.reduceMul, Int.reduceNeg, Int.reduceToNat, reduceCtorEq, reduceIte, lenV_sl ng, view_sl ng, scalar_sl ng, cells_sl ng, pure_sl ng, lenV_sl na, view_sl na, scalar_sl na, cells_sl na, pure_sl na, lenV_sl nw, view_sl nw, scalar_sl nw, cells_sl nw, pure_sl nw, lenV_sl tvs, view_sl tvs, scalar_sl tvs, cells_sl tvs, pure_sl tvs, lenV_sl uvs, view_sl uvs, scalar_sl uvs, cells_sl uvs, pure_sl uvs, lenV_sl HV, view_sl HV, scalar_sl HV, cells_sl HV, pure_sl HV, c4, c5, c7, c8, c9, hw, hc, hl, d11, gUn]
  have hl' : L.length = n.ancs.length := by omega
  have HL : NetOk (nr m L) hv .nils := nr_ok HV (by omega)
  have c10 := fun st => s19 HL st
  simp only [netV, nr, chk] at c10
  cases hm : (nr m L).valid
  · simp only [nr] at hm
    simp only [hm, Bool.false_eq_true, if_false] at c10
    refine Iso_of (es _ _ _ _) e3 ?_
    simp only [f3, A.netV]
    simp (disch := first | assumption | omega | (simp only [az]; done)) only [ru, eq_self, if_true, if_false, BEq.rfl, binI, AO.row?, splice, fillL, mmAll, loadV, storeV, zeros, Am.rowAt, Am.part, addOff, Nat.reduceAdd, Nat.reduceMul, Nat.reduceLeDiff, Nat.reduceSub, Nat.reduceLT, Int.reduceEq, Int.reduceLT, Int.reduceLE, Int.reduceGT, Int.reduceGE, Int.reduceAdd, Int.reduceSub, Int.reduceMul, Int.reduceNeg, Int.reduceToNat, reduceCtorEq, reduceIte, lenV_sl ng, view_sl ng, scalar_sl ng, cells_sl ng, pure_sl ng, lenV_sl na, view_sl na, scalar_sl na, cells_sl na, pure_sl na, lenV_sl nw, view_sl nw, scalar_sl nw, cells_sl nw, pure_sl nw, lenV_sl tvs, view_sl tvs, scalar_sl tvs, cells_sl tvs, pure_sl tvs, lenV_sl uvs, view_sl uvs, scalar_sl uvs, cells_sl uvs, pure_sl uvs, lenV_sl HV, view_sl HV, scalar_sl HV, cells_sl HV, pure_sl HV, c4, c5, c7, c8, c9, hw, hc, hl, c10, d11, gUn]
  have hm' := hm
  simp only [nr] at hm'
  simp only [hm', if_true] at c10
  have gt := Gt.b.2.2.1
  have gu := Gu.b.2.2.1
  have lT := HT.l
  have lU := HU.l
  refine Iso_of (es _ _ _ _) e3 ?_
  simp only [f3, A.netV]
  simp (disch := first | assumption | omega | (simp only [az]; done)) only [ru, eq_self, if_true, if_false, BEq.rfl, binI, AO.row?, splice, fillL, mmAll, loadV, storeV, zeros, Am.rowAt, Am.part, addOff, Nat.reduceAdd, Nat.reduceMul, Nat.reduceLeDiff, Nat.reduceSub, Nat.reduceLT, Int.reduceEq, Int.reduceLT, Int.reduceLE, Int.reduceGT, Int.reduceGE, Int.reduceAdd, Int.reduceSub, Int.reduceMul, Int.reduceNeg, Int.reduceToNat, reduceCtorEq, reduceIte, lenV_sl ng, view_sl ng, scalar_sl ng, cells_sl ng, pure_sl ng, lenV_sl na, view_sl na, scalar_sl na, cells_sl na, pure_sl na, lenV_sl nw, view_sl nw, scalar_sl nw, cells_sl nw, pure_sl nw, lenV_sl tvs, view_sl tvs, scalar_sl tvs, cells_sl tvs, pure_sl tvs, lenV_sl uvs, view_sl uvs, scalar_sl uvs, cells_sl uvs, pure_sl uvs, lenV_sl HV, view_sl HV, scalar_sl HV, cells_sl HV, pure_sl HV, c4, c5, c7, c8, c9, hw, hc, hl, c10, d11, gUn]
  refine G_loop_ind (fun z ts h mk => ∃ i : Nat, i ≤ n.grips.length ∧ z = n.grips.length - i ∧ (∀ j, j < i → t.grips.getD j default ≤ u.grips.getD j default) ∧ ts.length = 194 ∧ ts.getD 2 .undef = .ptr 0 0 ∧ ts.getD 3 .undef = .ptr 1 0 ∧ ts.getD 5 .undef = I i ∧
    h = [.cells [I n.wind.lo, I n.wind.hi, I n.cur.lo, I n.cur.hi, g, a, w] false, .cells [I t.wind, I t.cur, tv, I u.wind, I u.cur, uv, hv, I m] false] ∧ mk = []) ?_ _ _ _ _ ⟨0, Nat.zero_le _, rfl, fun j h => by omega, rfl, rfl, rfl, rfl, rfl, rfl⟩
  rintro z ts h mk ih ⟨i, hi, rfl, hall, hlen, q2, q3, q5, rfl, rfl⟩
  rw [lit_all hlen]
  simp only [lit0, litS, Nat.reduceAdd, q2, q3, q5]
  simp (disch := first | assumption | omega | (simp only [az]; done)) only [ru, eq_self, if_true, if_false, BEq.rfl, binI, AO.row?, splice, fillL, mmAll, loadV, storeV, zeros, Am.rowAt, Am.part, addOff, Nat.reduceAdd, Nat.reduceMul, Nat.reduceLeDiff, Nat.reduceSub, Nat.reduceLT, Int.reduceEq, Int.reduceLT, Int.reduceLE, Int.reduceGT, Int.reduceGE, Int.reduceAdd, Int.reduceSub, Int.reduceMul, Int.reduceNeg, Int.reduceToNat, reduceCtorEq, reduceIte, lenV_sl ng, view_sl ng, scalar_sl ng, cells_sl ng, pure_sl ng, lenV_sl na, view_sl na, scalar_sl na, cells_sl na, pure_sl na, lenV_sl nw, view_sl nw, scalar_sl nw, cells_sl nw, pure_sl nw, lenV_sl tvs, view_sl tvs, scalar_sl tvs, cells_sl tvs, pure_sl tvs, lenV_sl uvs, view_sl uvs, scalar_sl uvs, cells_sl uvs, pure_sl uvs, lenV_sl HV, view_sl HV, scalar_sl HV, cells_sl HV, pure_sl HV]
  by_cases hlt : (i : Int) < n.grips.length
  case pos =>
    have et := elem_sl (enc := fun n => [I n]) A.intE tvs (i : Int) (by omega) (by omega)
    have eu := elem_sl (enc := fun n => [I n]) A.intE uvs (i : Int) (by omega) (by omega)
    simp only [Int.toNat_natCast] at et eu
    by_cases hx : u.grips.getD i default < t.grips.getD i default
    · simp (disch := first | assumption | omega | (simp only [az]; done)) only [ru, eq_self, if_true, if_false, BEq.rfl, binI, AO.row?, splice, fillL, mmAll, loadV, storeV, zeros, Am.rowAt, Am.part, addOff, Nat.reduceAdd, Nat.reduceMul, Nat.reduceLeDiff, Nat.reduceSub, Nat.reduceLT, Int.reduceEq, Int.reduceLT, Int.reduceLE, Int.reduceGT, Int.reduceGE, Int.reduceAdd, Int.reduceSub, Int.reduceMul, Int.reduceNeg, Int.reduceToNat, reduceCtorEq, reduceIte, lenV_sl ng, view_sl ng, scalar_sl ng, cells_sl ng, pure_sl ng, lenV_sl na, view_sl na, scalar_sl na, cells_sl na, pure_sl na, lenV_sl nw, view_sl nw, scalar_sl nw, cells_sl nw, pure_sl nw, lenV_sl tvs, view_sl tvs, scalar_sl tvs, cells_sl tvs, pure_sl tvs, lenV_sl uvs, view_sl uvs, scalar_sl uvs, cells_sl uvs, pure_sl uvs, lenV_sl HV, view_sl HV, scalar_sl HV, cells_sl HV, pure_sl HV, hlt, et, eu, hx, d11]
    · simp (disch := first | assumption | omega | (simp only [az]; done)) only [ru, eq_self, if_true, if_false, BEq.rfl, binI, AO.row?, splice, fillL, mmAll, loadV, storeV, zeros, Am.rowAt, Am.part, addOff, Nat.reduceAdd, Nat.reduceMul, Nat.reduceLeDiff, Nat.reduceSub, Nat.reduceLT, Int.reduceEq, Int.reduceLT, Int.reduceLE, Int.reduceGT, Int.reduceGE, Int.reduceAdd, Int.reduceSub, Int.reduceMul, Int.reduceNeg, Int.reduceToNat, reduceCtorEq, reduceIte, lenV_sl ng, view_sl ng, scalar_sl ng, cells_sl ng, pure_sl ng, lenV_sl na, view_sl na, scalar_sl na, cells_sl na, pure_sl na, lenV_sl nw, view_sl nw, scalar_sl nw, cells_sl nw, pure_sl nw, lenV_sl tvs, view_sl tvs, scalar_sl tvs, cells_sl tvs, pure_sl tvs, lenV_sl uvs, view_sl uvs, scalar_sl uvs, cells_sl uvs, pure_sl uvs, lenV_sl HV, view_sl HV, scalar_sl HV, cells_sl HV, pure_sl HV, hlt, et, eu, hx]
      exact ih (n.grips.length - (i + 1)) _ _ _ (by omega) ⟨i + 1, by omega, rfl, fun j hj => by
        by_cases e : j = i
        · subst e; omega
        · exact hall j (by omega), rfl, rfl, rfl, rfl, rfl, rfl⟩
  have C : A.Calmer n u t := ⟨by omega, by omega, fun j hj => hall j (by omega)⟩
  have h1 := A.sHoles HN HT Gt HV hl' m t.wind t.cur u.wind u.cur tvs uvs
  have h2 := A.sHoles HN HU Gu HV hl' m t.wind t.cur u.wind u.cur tvs uvs
  have sub := pick_sub (H := L) (n := n) (A.lfp_calmer Gu.toFair Gt.toFair C)
  have all1 := pick_all (H := L) (n := n) hl' (D := A.lfp n t A.none6)
  obtain ⟨P, hP⟩ : ∃ P, P = pick L (A.lst n (A.lfp n t A.none6)) := ⟨_, rfl⟩
  obtain ⟨R, hR⟩ : ∃ R, R = pick L (A.lst n (A.lfp n u A.none6)) := ⟨_, rfl⟩
  rw [← hP] at h1 sub all1
  rw [← hR] at h2 sub
  obtain ⟨vP, _, _⟩ := nr_less rfl all1 hm
  obtain ⟨vR, le1, le2⟩ := nr_less rfl sub vP
  have lP := all1.length_le
  have lR := sub.length_le
  have OP : NetOk (nr m P) (A.pckV P) .nils := nr_ok (A.pckV_is P) (by omega)
  have OR : NetOk (nr m R) (A.pckV R) .nils := nr_ok (A.pckV_is R) (by omega)
  have a1 := fun st => s29 OP st
  have a2 := fun st => s29 OR st
  have a3 := fun st => s35 OP st
  have a4 := fun st => s35 OR st
  simp only [leaR, donR, vP, vR, if_true] at a1 a2 a3 a4
  obtain ⟨GP, _, _, lp, oP⟩ := valid_ok vP
  obtain ⟨GR, _, _, lr, oR⟩ := valid_ok vR
  have x1 := (lea_bd GP oP).1
  have x2 := (lea_bd GR oR).1
  have x3 := (don_bd GP oP).1
  have x4 := (don_bd GR oR).1
  have zP : P.length = 0 → lea (nr m P) = 0 ∧ don (nr m P) = 0 := fun e => by
    have e' : P = [] := List.eq_nil_of_length_eq_zero e
    rw [e'] at vP ⊢
    exact nr_nil vP
  obtain ⟨k, hk⟩ : ∃ k, k = lea (nr m P) := ⟨_, rfl⟩
  obtain ⟨l, hl2⟩ : ∃ k, k = lea (nr m R) := ⟨_, rfl⟩
  obtain ⟨c, hc2⟩ : ∃ k, k = don (nr m P) := ⟨_, rfl⟩
  obtain ⟨d, hd2⟩ : ∃ k, k = don (nr m R) := ⟨_, rfl⟩
  rw [← hk] at a1 le1 x1 zP
  rw [← hl2] at a2 le1 x2
  rw [← hc2] at a3 le2 x3 zP
  rw [← hd2] at a4 le2 x4
  have PV := A.pckV_is P
  have RV := A.pckV_is R
  obtain ⟨pv, hpv⟩ : ∃ pv, pv = A.pckV P := ⟨_, rfl⟩
  obtain ⟨rv, hrv⟩ : ∃ rv, rv = A.pckV R := ⟨_, rfl⟩
  rw [← hpv] at h1 a1 a3 PV
  rw [← hrv] at h2 a2 a4 RV
  simp only [netV, nr] at a1 a2 a3 a4
  simp only [A.netV] at h1 h2
  have n1 : ¬ l > k := by omega
  have n2 : ¬ d > c := by omega
  have mf : ∀ x y : Int, 0 ≤ x → 0 ≤ y → 0 ≤ mmx false x y := fun x y h1 h2 => by
    show 0 ≤ (if y < x then y else x)
    split <;> assumption
  have mn : ¬ mmx false (mmx false (mmx false k l) c) d < 0 := by
    have := mf _ _ (mf _ _ (mf _ _ x1 x2) x3) x4
    omega
  by_cases hz : (P.length : Int) > 0
  · simp (disch := first | assumption | omega | (simp only [az]; done)) only [ru, eq_self, if_true, if_false, BEq.rfl, binI, AO.row?, splice, fillL, mmAll, loadV, storeV, zeros, Am.rowAt, Am.part, addOff, Nat.reduceAdd, Nat.reduceMul, Nat.reduceLeDiff, Nat.reduceSub, Nat.reduceLT, Int.reduceEq, Int.reduceLT, Int.reduceLE, Int.reduceGT, Int.reduceGE, Int.reduceAdd, Int.reduceSub, Int.reduceMul, Int.reduceNeg, Int.reduceToNat, reduceCtorEq, reduceIte, hlt, lenV_sl ng, view_sl ng, scalar_sl ng, cells_sl ng, pure_sl ng, lenV_sl na, view_sl na, scalar_sl na, cells_sl na, pure_sl na, lenV_sl nw, view_sl nw, scalar_sl nw, cells_sl nw, pure_sl nw, lenV_sl tvs, view_sl tvs, scalar_sl tvs, cells_sl tvs, pure_sl tvs, lenV_sl uvs, view_sl uvs, scalar_sl uvs, cells_sl uvs, pure_sl uvs, lenV_sl HV, view_sl HV, scalar_sl HV, cells_sl HV, pure_sl HV, lenV_sl PV, view_sl PV, scalar_sl PV, cells_sl PV, pure_sl PV, lenV_sl RV, view_sl RV, scalar_sl RV, cells_sl RV, pure_sl RV, h1, h2, a1, a2, a3, a4, n1, n2, mn, hz, d11, gUn]
  · obtain ⟨z1, z2⟩ := zP (by omega)
    subst z1; subst z2
    simp (disch := first | assumption | omega | (simp only [az]; done)) only [ru, eq_self, if_true, if_false, BEq.rfl, binI, AO.row?, splice, fillL, mmAll, loadV, storeV, zeros, Am.rowAt, Am.part, addOff, Nat.reduceAdd, Nat.reduceMul, Nat.reduceLeDiff, Nat.reduceSub, Nat.reduceLT, Int.reduceEq, Int.reduceLT, Int.reduceLE, Int.reduceGT, Int.reduceGE, Int.reduceAdd, Int.reduceSub, Int.reduceMul, Int.reduceNeg, Int.reduceToNat, reduceCtorEq, reduceIte, hlt, lenV_sl ng, view_sl ng, scalar_sl ng, cells_sl ng, pure_sl ng, lenV_sl na, view_sl na, scalar_sl na, cells_sl na, pure_sl na, lenV_sl nw, view_sl nw, scalar_sl nw, cells_sl nw, pure_sl nw, lenV_sl tvs, view_sl tvs, scalar_sl tvs, cells_sl tvs, pure_sl tvs, lenV_sl uvs, view_sl uvs, scalar_sl uvs, cells_sl uvs, pure_sl uvs, lenV_sl HV, view_sl HV, scalar_sl HV, cells_sl HV, pure_sl HV, lenV_sl PV, view_sl PV, scalar_sl PV, cells_sl PV, pure_sl PV, lenV_sl RV, view_sl RV, scalar_sl RV, cells_sl RV, pure_sl RV, h1, h2, a1, a2, a3, a4, n1, n2, mn, hz, d11, gUn]
end Go.Proofs.Ytmldjpeiokciiaa.S
