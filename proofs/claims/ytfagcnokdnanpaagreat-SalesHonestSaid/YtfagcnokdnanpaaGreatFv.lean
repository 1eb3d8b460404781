/-
SalesPaid; lists that come earlier.
-/
import Derived.Test.YtfagcnokdnanpaaGreatS2
namespace Go.Proofs.YtfagcnokdnanpaaGreat.S
open Go Go.Am Go.Proofs.YtfagcnokdnanpaaGreat.T
set_option maxRecDepth 100000
set_option linter.unusedSimpArgs false
set_option linter.unusedVariables false

section
variable {f : Fs} {k p b pv bv : AV} {w : Nat → AV}
set_option maxHeartbeats 2000000 in
theorem l4 (H : FsIn f k p b pv bv w) : Iso E 4 [frV f k p b pv bv] false = some (Bo true) := by
  have a13 := fun st => t13 H st
  simp only [frV] at a13
  refine Iso_of (es _ _ _ _) e4 ?_
  simp only [f4]
  cases hr : f.rdy
  · rw [hr] at a13
    simp (disch := first | assumption | omega | (simp only [az]; done)) only [ru, eq_self, if_true, if_false, BEq.rfl, binI, AO.row?, splice, fillL, mmAll, loadV, storeV, zeros, Am.rowAt, Am.part, addOff, Nat.reduceAdd, Nat.reduceMul, Nat.reduceLeDiff, Nat.reduceSub, Nat.reduceLT, Int.reduceEq, Int.reduceLT, Int.reduceLE, Int.reduceGT, Int.reduceGE, Int.reduceAdd, Int.reduceSub, Int.reduceMul, Int.reduceNeg, Int.reduceToNat, reduceCtorEq, reduceIte, lenV_sl H.h.k, lenV_sl H.h.p, lenV_sl H.h.b, elem_kd H.h.k, elem_pr H.h.p, elem_in H.h.b, view_sl H.h.k, view_sl H.h.p, view_sl H.h.b, scalar_sl H.h.k, scalar_sl H.h.p, scalar_sl H.h.b, cells_sl H.h.k, cells_sl H.h.p, cells_sl H.h.b, pure_sl H.h.k, pure_sl H.h.p, pure_sl H.h.b, Int.toNat_natCast, lenV_sl H.pk, view_sl H.pk, scalar_sl H.pk, cells_sl H.pk, pure_sl H.pk, H.bi.len, H.bi.sc, H.bi.ce, H.bi.pu, H.bi.vw, a13, t15, Bool.not_false]
  rw [hr] at a13
  obtain ⟨K, G, hv⟩ := rdy_ok H hr
  have h0 : ∀ s ∈ allS f.r f.bids, 0 ≤ prc f.bids s := fun s hs => (sale_bd G.bg (mem_allS.1 hs)).1
  have i1 := bV_is (p := fun _ => true) h0
  have w1 := wins_is G.bg (r := f.r)
  have wl := isS_lenL w1.1
  have nb := K.nb
  have a16 := fun st => t16 K hv st
  have a17 := t17 K hv
  have a24 := fun st => t24 K st
  have a25 := fun u st => t25 K u st
  have a26 := fun (u : Int) st => t26 K (s := wins f.bids f.r) i1 (by omega) (isS_mem w1.1) u st
  have tb := tops_bd G (r := f.r)
  have pd := paid_le G.bg (r := f.r)
  have gn := G.bg.nn
  simp only [frV, hv, fE_t, if_true] at a16 a17 a24 a25 a26
  obtain ⟨T, hT⟩ : ∃ T, T = tops f.bids f.r := ⟨_, rfl⟩
  obtain ⟨A, hA⟩ : ∃ A, A = paidF f.bids f.r f.n.toNat := ⟨_, rfl⟩
  rw [← hT, ← hA] at pd
  rw [← hT] at tb a16
  rw [← hA] at a24
  have n1 : ¬ T < 0 := by omega
  have n2 : ¬ A < 0 := by omega
  have n3 : ¬ A > T := by omega
  obtain ⟨V, hV⟩ : ∃ V, V = bV (bsT f.bids (fun _ => true) (allS f.r f.bids)) := ⟨_, rfl⟩
  rw [← hV] at a17 a26 i1
  simp (disch := first | assumption | omega | (simp only [az]; done)) only [ru, eq_self, if_true, if_false, BEq.rfl, binI, AO.row?, splice, fillL, mmAll, loadV, storeV, zeros, Am.rowAt, Am.part, addOff, Nat.reduceAdd, Nat.reduceMul, Nat.reduceLeDiff, Nat.reduceSub, Nat.reduceLT, Int.reduceEq, Int.reduceLT, Int.reduceLE, Int.reduceGT, Int.reduceGE, Int.reduceAdd, Int.reduceSub, Int.reduceMul, Int.reduceNeg, Int.reduceToNat, reduceCtorEq, reduceIte, lenV_sl H.h.k, lenV_sl H.h.p, lenV_sl H.h.b, elem_kd H.h.k, elem_pr H.h.p, elem_in H.h.b, view_sl H.h.k, view_sl H.h.p, view_sl H.h.b, scalar_sl H.h.k, scalar_sl H.h.p, scalar_sl H.h.b, cells_sl H.h.k, cells_sl H.h.p, cells_sl H.h.b, pure_sl H.h.k, pure_sl H.h.p, pure_sl H.h.b, Int.toNat_natCast, lenV_sl H.pk, view_sl H.pk, scalar_sl H.pk, cells_sl H.pk, pure_sl H.pk, H.bi.len, H.bi.sc, H.bi.ce, H.bi.pu, H.bi.vw, lenV_sl i1, view_sl i1, scalar_sl i1, cells_sl i1, pure_sl i1, a13, a16, a17, a24, n1, n2, n3, gUn, decide_false, Bool.not_true]
  refine G_loop_ind (fun y ts hk mk => ∃ (j : Nat), (j : Int) ≤ f.n ∧ y = f.n.toNat - j ∧ hk = [.cells [k, I f.h.fl, p, b, pv, I f.d, I f.n, bv] false] ∧
      ts.length = 91 ∧ ts.getD 1 .undef = .ptr 0 0 ∧ ts.getD 4 .undef = V ∧ ts.getD 6 .undef = I (A - paidF f.bids f.r j) ∧ ts.getD 8 .undef = I j ∧ mk = []) ?_ f.n.toNat _ _ _ ⟨0, by omega, rfl, rfl, rfl, rfl, rfl, by simp [paidF, sm], rfl, rfl⟩
  rintro y ts hk mk ih ⟨j, hj, rfl, rfl, hl', q1, q4, q6, q8, rfl⟩
  rw [lit_all hl']
  simp only [lit0, litS, Nat.reduceAdd, q1, q4, q6, q8]
  simp (disch := first | assumption | omega | (simp only [az]; done)) only [ru, eq_self, if_true, if_false, BEq.rfl, binI, AO.row?, splice, fillL, mmAll, loadV, storeV, zeros, Am.rowAt, Am.part, addOff, Nat.reduceAdd, Nat.reduceMul, Nat.reduceLeDiff, Nat.reduceSub, Nat.reduceLT, Int.reduceEq, Int.reduceLT, Int.reduceLE, Int.reduceGT, Int.reduceGE, Int.reduceAdd, Int.reduceSub, Int.reduceMul, Int.reduceNeg, Int.reduceToNat, reduceCtorEq, reduceIte, lenV_sl H.h.k, lenV_sl H.h.p, lenV_sl H.h.b, elem_kd H.h.k, elem_pr H.h.p, elem_in H.h.b, view_sl H.h.k, view_sl H.h.p, view_sl H.h.b, scalar_sl H.h.k, scalar_sl H.h.p, scalar_sl H.h.b, cells_sl H.h.k, cells_sl H.h.p, cells_sl H.h.b, pure_sl H.h.k, pure_sl H.h.p, pure_sl H.h.b, Int.toNat_natCast, lenV_sl H.pk, view_sl H.pk, scalar_sl H.pk, cells_sl H.pk, pure_sl H.pk, H.bi.len, H.bi.sc, H.bi.ce, H.bi.pu, H.bi.vw]
  by_cases hlt : (j : Int) < f.n
  case neg =>
    have ej : f.n.toNat = j := by omega
    rw [ej] at hA
    have e0 : A - paidF f.bids f.r j = 0 := by omega
    simp (disch := first | assumption | omega | (simp only [az]; done)) only [ru, eq_self, if_true, if_false, BEq.rfl, binI, AO.row?, splice, fillL, mmAll, loadV, storeV, zeros, Am.rowAt, Am.part, addOff, Nat.reduceAdd, Nat.reduceMul, Nat.reduceLeDiff, Nat.reduceSub, Nat.reduceLT, Int.reduceEq, Int.reduceLT, Int.reduceLE, Int.reduceGT, Int.reduceGE, Int.reduceAdd, Int.reduceSub, Int.reduceMul, Int.reduceNeg, Int.reduceToNat, reduceCtorEq, reduceIte, hlt, e0, t15, gUn]
  have hin : inR (j : Int) 0 (f.n - 1) = true := inR_iff.2 ⟨by omega, by omega⟩
  have aj := fun st => a25 j st
  simp only [hin, askF, if_true] at aj
  have pl := pay_le G.bg (r := f.r) j
  have ps := paidF_succ (L := f.bids) (r := f.r) (n := j)
  have b2 := paid_bd G.bg (r := f.r) j
  have b1 := pay_bd G.bg (r := f.r) (u := (j : Int))
  obtain ⟨P, hP⟩ : ∃ P, P = payF f.bids f.r j := ⟨_, rfl⟩
  obtain ⟨Z, hZ⟩ : ∃ Z, Z = paidF f.bids f.r j := ⟨_, rfl⟩
  rw [← hP] at aj pl ps b1
  rw [← hZ] at ps b2 ⊢
  have p1 : ¬ P < 0 := by omega
  cases hf : (wins f.bids f.r).find? (byU f.bids j) with
  | none =>
    have aw := fun st => a26 j st
    simp only [hf, Option.getD_none] at aw
    simp only [cwn, hf, Option.map_none, Option.getD_none] at pl
    have p2 : ¬ P > 0 := by omega
    simp (disch := first | assumption | omega | (simp only [az]; done)) only [ru, eq_self, if_true, if_false, BEq.rfl, binI, AO.row?, splice, fillL, mmAll, loadV, storeV, zeros, Am.rowAt, Am.part, addOff, Nat.reduceAdd, Nat.reduceMul, Nat.reduceLeDiff, Nat.reduceSub, Nat.reduceLT, Int.reduceEq, Int.reduceLT, Int.reduceLE, Int.reduceGT, Int.reduceGE, Int.reduceAdd, Int.reduceSub, Int.reduceMul, Int.reduceNeg, Int.reduceToNat, reduceCtorEq, reduceIte, lenV_sl H.h.k, lenV_sl H.h.p, lenV_sl H.h.b, elem_kd H.h.k, elem_pr H.h.p, elem_in H.h.b, view_sl H.h.k, view_sl H.h.p, view_sl H.h.b, scalar_sl H.h.k, scalar_sl H.h.p, scalar_sl H.h.b, cells_sl H.h.k, cells_sl H.h.p, cells_sl H.h.b, pure_sl H.h.k, pure_sl H.h.p, pure_sl H.h.b, Int.toNat_natCast, lenV_sl H.pk, view_sl H.pk, scalar_sl H.pk, cells_sl H.pk, pure_sl H.pk, H.bi.len, H.bi.sc, H.bi.ce, H.bi.pu, H.bi.vw, lenV_sl i1, view_sl i1, scalar_sl i1, cells_sl i1, pure_sl i1, hlt, aj, aw, p1, p2, gUn, decide_false]
    exact ih (f.n.toNat - (j + 1)) _ _ _ (by omega) ⟨j + 1, by omega, rfl, rfl, rfl, rfl, rfl, by rw [ps]; show I (A - Z - P) = _; congr 1; omega, rfl, rfl⟩
  | some x =>
    have aw := fun st => a26 j st
    simp only [hf, Option.getD_some] at aw
    have wx := win_u G.bg hf
    have eb := H.bi.el x wx.2.2.1 wx.2.2.2.1
    have gx := G.bg.at wx.2.2.1 wx.2.2.2.1
    simp only [cwn, hf, Option.map_some, Option.getD_some] at pl
    have x0 : x ≥ 0 := wx.2.2.1
    have p2 : ¬ P > (bAt f.bids x).c := by omega
    simp (disch := first | assumption | omega | (simp only [az]; done)) only [ru, eq_self, if_true, if_false, BEq.rfl, binI, AO.row?, splice, fillL, mmAll, loadV, storeV, zeros, Am.rowAt, Am.part, addOff, Nat.reduceAdd, Nat.reduceMul, Nat.reduceLeDiff, Nat.reduceSub, Nat.reduceLT, Int.reduceEq, Int.reduceLT, Int.reduceLE, Int.reduceGT, Int.reduceGE, Int.reduceAdd, Int.reduceSub, Int.reduceMul, Int.reduceNeg, Int.reduceToNat, reduceCtorEq, reduceIte, lenV_sl H.h.k, lenV_sl H.h.p, lenV_sl H.h.b, elem_kd H.h.k, elem_pr H.h.p, elem_in H.h.b, view_sl H.h.k, view_sl H.h.p, view_sl H.h.b, scalar_sl H.h.k, scalar_sl H.h.p, scalar_sl H.h.b, cells_sl H.h.k, cells_sl H.h.p, cells_sl H.h.b, pure_sl H.h.k, pure_sl H.h.p, pure_sl H.h.b, Int.toNat_natCast, lenV_sl H.pk, view_sl H.pk, scalar_sl H.pk, cells_sl H.pk, pure_sl H.pk, H.bi.len, H.bi.sc, H.bi.ce, H.bi.pu, H.bi.vw, lenV_sl i1, view_sl i1, scalar_sl i1, cells_sl i1, pure_sl i1, hlt, aj, aw, x0, eb, p1, p2, gUn, decide_false, decide_true]
    exact ih (f.n.toNat - (j + 1)) _ _ _ (by omega) ⟨j + 1, by omega, rfl, rfl, rfl, rfl, rfl, by rw [ps]; show I (A - Z - P) = _; congr 1; omega, rfl, rfl⟩
end
end Go.Proofs.YtfagcnokdnanpaaGreat.S

