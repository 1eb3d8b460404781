/-
What all nodes get, of a custom that is an object.
-/
import Derived.Test.YtaeijjfgfenfhaaOc
namespace Go.Proofs.Ytaeijjfgfenfhaa.S
open Go Go.Am Go.Proofs.Ytaeijjfgfenfhaa.T
set_option maxRecDepth 100000
set_option linter.unusedSimpArgs false
set_option linter.unusedVariables false

theorem under_res {l : List Int} {n : Nat} : (resL l).under n = true := by
  unfold resL; split <;> rfl
theorem t21r {C : List Nd} {v : AV} (hv : IsSl 3 Nd.e C v) (H : CuOk C) {p : Int} (hp : inR p 0 400 = true) (st : Bool) : Iso E 21 [cuV v, I p] st = some (.tup [resL (gL C p), I 0]) := by
  have h := t21s hv (by have := H.n8; omega) p st
  rw [hp, fit_val H, if_pos rfl, ansL, if_pos rfl] at h
  exact h
set_option maxHeartbeats 1000000 in
theorem s47 {C : List Nd} {u v : AV} (hv : IsSl 3 Nd.e C v) (H : CuOk C) {h : List AO} {b : Bool} (hpu : u.pureV = b) (vw : ∀ m k, Am.view false (h ++ m) (k + 1) u = some v) (hlen : lenV u = some (I C.length)) {p : Int} (hp : 0 ≤ p) (hp4 : p ≤ 400) : Ro E 47 [cuV u, I p] h = some (.tup [resL (gL C p), Bo true]) := by
  have hl : C.length ≤ 1000 := by have := H.n8; omega
  refine Ro_of (es _ _ _ _) e47 ?_
  simp only [f47]
  have ip : inR p 0 400 = true := inR_iff.2 ⟨hp, hp4⟩
  have h21 := fun st => t21r hv H ip st
  have rl := resL_is (gL C p)
  have un := fun n => under_res (l := gL C p) (n := n)
  obtain ⟨w, hw⟩ : ∃ w, w = resL (gL C p) := ⟨_, rfl⟩
  rw [← hw] at h21 rl un ⊢
  have hb1 : ((0 : Int) != 0) = false := rfl
  have hb2 : ((C.length : Int) != C.length) = false := by simp
  simp (disch := first | assumption | omega | (simp only [az]; done)) only [ru, eq_self, if_true, if_false, BEq.rfl, binI, AO.row?, splice, fillL, mmAll, loadV, storeV, zeros, Am.rowAt, Am.part, addOff, Nat.reduceAdd, Nat.reduceMul, Nat.reduceLeDiff, Nat.reduceSub, Nat.reduceLT, Int.reduceEq, Int.reduceLT, Int.reduceLE, Int.reduceGT, Int.reduceGE, Int.reduceAdd, Int.reduceSub, Int.reduceMul, Int.reduceNeg, Int.reduceToNat, reduceCtorEq, reduceIte, hpu, view_agg, vw, hlen, lenE, atT0, setT0, atT, setT, atE, setE, h21, lenV_sl rl, elem_in rl, view_sl rl, scalar_sl rl, cells_sl rl, pure_sl rl, Int.toNat_natCast, hb1, gUn, gL_len, hb2]
  refine G_loop_ind (fun y ts hk mk => ∃ i : Nat, i ≤ C.length ∧ y = C.length - i ∧ ts.length = 39 ∧ ts.getD 1 .undef = I p ∧ ts.getD 6 .undef = w ∧ ts.getD 8 .undef = I i ∧ mk = []) ?_ C.length _ _ _ ⟨0, Nat.zero_le _, rfl, rfl, rfl, rfl, rfl, rfl⟩
  rintro y ts hk mk ih ⟨i, hi, rfl, hl', q1, q6, q8, rfl⟩
  rw [lit_all hl']
  simp only [lit0, litS, Nat.reduceAdd, q1, q6, q8]
  by_cases hlt : (i : Int) < C.length
  · have b := gG_bd H hp i (by omega)
    have hin : inR (gG C p i) 0 p = true := inR_iff.2 b
    have hlt2 : (i : Int) < ((gL C p).length : Int) := by rw [gL_len]; exact hlt
    simp (disch := first | assumption | omega | (simp only [az]; done)) only [ru, eq_self, if_true, if_false, BEq.rfl, binI, AO.row?, splice, fillL, mmAll, loadV, storeV, zeros, Am.rowAt, Am.part, addOff, Nat.reduceAdd, Nat.reduceMul, Nat.reduceLeDiff, Nat.reduceSub, Nat.reduceLT, Int.reduceEq, Int.reduceLT, Int.reduceLE, Int.reduceGT, Int.reduceGE, Int.reduceAdd, Int.reduceSub, Int.reduceMul, Int.reduceNeg, Int.reduceToNat, reduceCtorEq, reduceIte, hlt, lenV_sl rl, elem_in rl, view_sl rl, scalar_sl rl, cells_sl rl, pure_sl rl, Int.toNat_natCast, gL_len, gL_at (C := C) (p := p) (j := i) (by omega), s57, hin, Bool.not_true]
    exact ih (C.length - (i + 1)) _ _ _ (by omega) ⟨i + 1, by omega, rfl, rfl, rfl, rfl, rfl, rfl⟩
  · simp (disch := first | assumption | omega | (simp only [az]; done)) only [ru, eq_self, if_true, if_false, BEq.rfl, binI, AO.row?, splice, fillL, mmAll, loadV, storeV, zeros, Am.rowAt, Am.part, addOff, Nat.reduceAdd, Nat.reduceMul, Nat.reduceLeDiff, Nat.reduceSub, Nat.reduceLT, Int.reduceEq, Int.reduceLT, Int.reduceLE, Int.reduceGT, Int.reduceGE, Int.reduceAdd, Int.reduceSub, Int.reduceMul, Int.reduceNeg, Int.reduceToNat, reduceCtorEq, reduceIte, hlt, lenV_sl rl, elem_in rl, view_sl rl, scalar_sl rl, cells_sl rl, pure_sl rl, Int.toNat_natCast, gL_len]
    first
    | exact ⟨rfl, by simp only [AV.under, AV.under.go, un, Bool.and_self]⟩
    | (simp only [AV.under, AV.under.go, un, Bool.and_self]; done)
end Go.Proofs.Ytaeijjfgfenfhaa.S

