/-
SalesGood: equal fairs, the specification's Ready and Good.
-/
import Derived.Test.YtfagcnokdnanpaaGreatFv
namespace Go.Proofs.YtfagcnokdnanpaaGreat.S
open Go Go.Am Go.Proofs.YtfagcnokdnanpaaGreat.T
set_option maxRecDepth 100000
set_option linter.unusedSimpArgs false
set_option linter.unusedVariables false
section
variable {f : Fs} {k p b pv bv : AV} {w : Nat → AV}
set_option maxHeartbeats 2000000 in
theorem t43 {k' p' b' pv' bv' : AV} {w' : Nat → AV} (H : FsOk f k p b pv bv w) (H' : FsOk f k' p' b' pv' bv' w') (st : Bool) : Iso E 43 [frV f k p b pv bv, frV f k' p' b' pv' bv'] st = some (Bo true) := by
  have nb := H.nb; have np := H.np
  have a78 := fun st => s27 H.ho H'.ho st
  have a35 := fun st => s28 H.pk H'.pk (by omega) st
  simp only [hsV] at a78
  refine Iso_of (es _ _ _ _) e43 ?_
  simp only [f43, frV]
  simp (disch := first | assumption | omega | (simp only [az]; done)) only [ru, eq_self, if_true, if_false, BEq.rfl, binI, AO.row?, splice, fillL, mmAll, loadV, storeV, zeros, Am.rowAt, Am.part, addOff, Nat.reduceAdd, Nat.reduceMul, Nat.reduceLeDiff, Nat.reduceSub, Nat.reduceLT, Int.reduceEq, Int.reduceLT, Int.reduceLE, Int.reduceGT, Int.reduceGE, Int.reduceAdd, Int.reduceSub, Int.reduceMul, Int.reduceNeg, Int.reduceToNat, reduceCtorEq, reduceIte, H.fai, Int.toNat_natCast, H'.fai, Int.toNat_natCast, a78, a35, gUn, decide_true, Bool.not_true, bne_self_eq_false]
  refine G_loop_ind (fun m ts hk mk => ∃ i : Nat, i ≤ f.bids.length ∧ m = f.bids.length - i ∧ 2 ≤ hk.length ∧ hk[0]? = some (.cells [k, I f.h.fl, p, b, pv, I f.d, I f.n, bv] false) ∧ hk[1]? = some (.cells [k', I f.h.fl, p', b', pv', I f.d, I f.n, bv'] false) ∧
      ts.length = 82 ∧ ts.getD 2 .undef = .ptr 0 0 ∧ ts.getD 3 .undef = .ptr 1 0 ∧ ts.getD 5 .undef = I i ∧ mk = []) ?_ f.bids.length _ _ _
    ⟨0, Nat.zero_le _, rfl, by simp, rfl, rfl, rfl, rfl, rfl, rfl, rfl⟩
  rintro m ts hk mk ih ⟨i, hi, rfl, hle, c0, c1, hl', q2, q3, q5, rfl⟩
  rw [lit_all hl']
  simp only [lit0, litS, Nat.reduceAdd, q2, q3, q5]
  simp (disch := first | assumption | omega | (simp only [az]; done)) only [ru, eq_self, if_true, if_false, BEq.rfl, binI, AO.row?, splice, fillL, mmAll, loadV, storeV, zeros, Am.rowAt, Am.part, addOff, Nat.reduceAdd, Nat.reduceMul, Nat.reduceLeDiff, Nat.reduceSub, Nat.reduceLT, Int.reduceEq, Int.reduceLT, Int.reduceLE, Int.reduceGT, Int.reduceGE, Int.reduceAdd, Int.reduceSub, Int.reduceMul, Int.reduceNeg, Int.reduceToNat, reduceCtorEq, reduceIte, H.fai, Int.toNat_natCast, H'.fai, Int.toNat_natCast, c0, c1]
  by_cases hlt : (i : Int) < f.bids.length
  case neg => simp (disch := first | assumption | omega | (simp only [az]; done)) only [ru, eq_self, if_true, if_false, BEq.rfl, binI, AO.row?, splice, fillL, mmAll, loadV, storeV, zeros, Am.rowAt, Am.part, addOff, Nat.reduceAdd, Nat.reduceMul, Nat.reduceLeDiff, Nat.reduceSub, Nat.reduceLT, Int.reduceEq, Int.reduceLT, Int.reduceLE, Int.reduceGT, Int.reduceGE, Int.reduceAdd, Int.reduceSub, Int.reduceMul, Int.reduceNeg, Int.reduceToNat, reduceCtorEq, reduceIte, hlt]
  have hi' : i < f.bids.length := by omega
  have eb := H.bi.el i (by omega) hlt
  have eb' := H'.bi.el i (by omega) hlt
  obtain ⟨W, lW⟩ := bAt_w H (i := (i : Int)) (by omega) hlt
  obtain ⟨W', _⟩ := bAt_w H' (i := (i : Int)) (by omega) hlt
  rw [Int.toNat_natCast] at W W' eb eb'
  have a35b := fun st => s28 W W' (by omega) st
  have aN : ∀ (l : List AO) j, (hk ++ l)[hk.length + j]? = l[j]? := fun l j => atT
  have a0 : ∀ (l : List AO), (hk ++ l)[hk.length]? = l[0]? := fun l => atT0
  have sN : ∀ (l : List AO) j x, (hk ++ l).set (hk.length + j) x = hk ++ l.set j x := fun l j x => setT
  have s0 : ∀ (l : List AO) x, (hk ++ l).set hk.length x = hk ++ l.set 0 x := fun l x => setT0
  have b0 : ∀ (l : List AO), (hk ++ l)[0]? = some (.cells [k, I f.h.fl, p, b, pv, I f.d, I f.n, bv] false) := fun l => by rw [at_ap (by omega)]; exact c0
  have b1 : ∀ (l : List AO), (hk ++ l)[1]? = some (.cells [k', I f.h.fl, p', b', pv', I f.d, I f.n, bv'] false) := fun l => by rw [at_ap (by omega)]; exact c1
  simp (disch := first | assumption | omega | (simp only [az]; done)) only [ru, eq_self, if_true, if_false, BEq.rfl, binI, AO.row?, splice, fillL, mmAll, loadV, storeV, zeros, Am.rowAt, Am.part, addOff, Nat.reduceAdd, Nat.reduceMul, Nat.reduceLeDiff, Nat.reduceSub, Nat.reduceLT, Int.reduceEq, Int.reduceLT, Int.reduceLE, Int.reduceGT, Int.reduceGE, Int.reduceAdd, Int.reduceSub, Int.reduceMul, Int.reduceNeg, Int.reduceToNat, reduceCtorEq, reduceIte, H.fai, Int.toNat_natCast, H'.fai, Int.toNat_natCast, lenV_sl W, view_sl W, scalar_sl W, cells_sl W, pure_sl W, lenV_sl W', view_sl W', scalar_sl W', cells_sl W', pure_sl W', c0, c1, b0, b1, hlt, eb, eb', a35b, List.append_assoc, List.cons_append, List.nil_append, List.length_append, List.length_cons, List.length_nil, Nat.zero_add, Nat.add_assoc, aN, a0, sN, s0, List.getElem?_cons_succ, List.getElem?_cons_zero, List.set_cons_succ, List.set_cons_zero, Nat.zero_le, gUn, bne_self_eq_false, Bool.not_true]
  refine ih (f.bids.length - (i + 1)) _ _ _ (by omega) ⟨i + 1, by omega, rfl, by simp, b0 _, b1 _, rfl, rfl, rfl, rfl, rfl⟩
end
end Go.Proofs.YtfagcnokdnanpaaGreat.S
