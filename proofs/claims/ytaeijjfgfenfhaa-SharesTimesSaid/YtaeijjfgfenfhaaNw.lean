/-
Copies and comparisons.
-/
import Derived.Test.YtaeijjfgfenfhaaNv
namespace Go.Proofs.Ytaeijjfgfenfhaa.S
open Go Go.Am Go.Proofs.Ytaeijjfgfenfhaa.T
set_option maxRecDepth 100000
set_option linter.unusedSimpArgs false
set_option linter.unusedVariables false

theorem t28 {C : List Nd} {u v : AV} (hu : IsSl 3 Nd.e C u) (hv : IsSl 3 Nd.e C v) (hl : C.length ≤ 1000) (st : Bool) : Iso E 28 [cuV u, cuV v] st = some (Bo true) := by
  refine Iso_of (es _ _ _ _) e28 ?_
  simp only [f28]
  have nn : ((C.length : Int) != (C.length : Int)) = false := by simp
  simp (disch := first | assumption | omega | (simp only [az]; done)) only [ru, eq_self, if_true, if_false, BEq.rfl, binI, AO.row?, splice, fillL, mmAll, loadV, storeV, zeros, Am.rowAt, Am.part, addOff, Nat.reduceAdd, Nat.reduceMul, Nat.reduceLeDiff, Nat.reduceSub, Nat.reduceLT, Int.reduceEq, Int.reduceLT, Int.reduceLE, Int.reduceGT, Int.reduceGE, Int.reduceAdd, Int.reduceSub, Int.reduceMul, Int.reduceNeg, Int.reduceToNat, reduceCtorEq, reduceIte, lenV_sl hu, view_sl hu, scalar_sl hu, cells_sl hu, pure_sl hu, lenV_sl hv, view_sl hv, scalar_sl hv, cells_sl hv, pure_sl hv, nn]
  refine G_loop_ind (fun y ts hk mk => ∃ m : Nat, m ≤ C.length ∧ y = C.length - m ∧ hk = [.cells [u] false, .cells [v] false] ∧ ts.length = 31 ∧ ts.getD 2 .undef = .ptr 0 0 ∧ ts.getD 3 .undef = .ptr 1 0 ∧ ts.getD 5 .undef = I m ∧ mk = []) ?_ C.length _ _ _ ⟨0, Nat.zero_le _, rfl, rfl, rfl, rfl, rfl, rfl, rfl⟩
  rintro y ts hk mk ih ⟨m, hm, rfl, rfl, hl', q2, q3, q5, rfl⟩
  rw [lit_all hl']
  simp only [lit0, litS, Nat.reduceAdd, q2, q3, q5]
  by_cases hlt : (m : Int) < C.length
  · have eq : ∀ a b c : Int, eqCells [true, true, true] [I a, I b, I c] [I a, I b, I c] = some true := fun a b c => by simp [eqCells]
    simp (disch := first | assumption | omega | (simp only [az]; done)) only [ru, eq_self, if_true, if_false, BEq.rfl, binI, AO.row?, splice, fillL, mmAll, loadV, storeV, zeros, Am.rowAt, Am.part, addOff, Nat.reduceAdd, Nat.reduceMul, Nat.reduceLeDiff, Nat.reduceSub, Nat.reduceLT, Int.reduceEq, Int.reduceLT, Int.reduceLE, Int.reduceGT, Int.reduceGE, Int.reduceAdd, Int.reduceSub, Int.reduceMul, Int.reduceNeg, Int.reduceToNat, reduceCtorEq, reduceIte, hlt, lenV_sl hu, view_sl hu, scalar_sl hu, cells_sl hu, pure_sl hu, lenV_sl hv, view_sl hv, scalar_sl hv, cells_sl hv, pure_sl hv, elem_nd hu, elem_nd hv, Int.toNat_natCast, pex_eqS, eq, Option.map_some, if_true, Bool.not_true]
    exact ih (C.length - (m + 1)) _ _ _ (by omega) ⟨m + 1, by omega, rfl, rfl, rfl, rfl, rfl, rfl, rfl⟩
  · simp (disch := first | assumption | omega | (simp only [az]; done)) only [ru, eq_self, if_true, if_false, BEq.rfl, binI, AO.row?, splice, fillL, mmAll, loadV, storeV, zeros, Am.rowAt, Am.part, addOff, Nat.reduceAdd, Nat.reduceMul, Nat.reduceLeDiff, Nat.reduceSub, Nat.reduceLT, Int.reduceEq, Int.reduceLT, Int.reduceLE, Int.reduceGT, Int.reduceGE, Int.reduceAdd, Int.reduceSub, Int.reduceMul, Int.reduceNeg, Int.reduceToNat, reduceCtorEq, reduceIte, hlt, lenV_sl hu, view_sl hu, scalar_sl hu, cells_sl hu, pure_sl hu]
theorem t44 {C : List Py} {u v : AV} (hu : IsSl 3 Py.e C u) (hv : IsSl 3 Py.e C v) (hl : C.length ≤ 1000) (st : Bool) : Iso E 44 [u, v] st = some (Bo true) := by
  refine Iso_of (es _ _ _ _) e44 ?_
  simp only [f44]
  have nn : ((C.length : Int) != (C.length : Int)) = false := by simp
  simp (disch := first | assumption | omega | (simp only [az]; done)) only [ru, eq_self, if_true, if_false, BEq.rfl, binI, AO.row?, splice, fillL, mmAll, loadV, storeV, zeros, Am.rowAt, Am.part, addOff, Nat.reduceAdd, Nat.reduceMul, Nat.reduceLeDiff, Nat.reduceSub, Nat.reduceLT, Int.reduceEq, Int.reduceLT, Int.reduceLE, Int.reduceGT, Int.reduceGE, Int.reduceAdd, Int.reduceSub, Int.reduceMul, Int.reduceNeg, Int.reduceToNat, reduceCtorEq, reduceIte, lenV_sl hu, view_sl hu, scalar_sl hu, cells_sl hu, pure_sl hu, lenV_sl hv, view_sl hv, scalar_sl hv, cells_sl hv, pure_sl hv, nn]
  refine G_loop_ind (fun y ts hk mk => ∃ m : Nat, m ≤ C.length ∧ y = C.length - m ∧ hk = [] ∧ ts.length = 26 ∧ ts.getD 0 .undef = u ∧ ts.getD 1 .undef = v ∧ ts.getD 5 .undef = I m ∧ mk = []) ?_ C.length _ _ _ ⟨0, Nat.zero_le _, rfl, rfl, rfl, rfl, rfl, rfl, rfl⟩
  rintro y ts hk mk ih ⟨m, hm, rfl, rfl, hl', q2, q3, q5, rfl⟩
  rw [lit_all hl']
  simp only [lit0, litS, Nat.reduceAdd, q2, q3, q5]
  by_cases hlt : (m : Int) < C.length
  · have eq : ∀ a b c : Int, eqCells [true, true, true] [I a, I b, I c] [I a, I b, I c] = some true := fun a b c => by simp [eqCells]
    simp (disch := first | assumption | omega | (simp only [az]; done)) only [ru, eq_self, if_true, if_false, BEq.rfl, binI, AO.row?, splice, fillL, mmAll, loadV, storeV, zeros, Am.rowAt, Am.part, addOff, Nat.reduceAdd, Nat.reduceMul, Nat.reduceLeDiff, Nat.reduceSub, Nat.reduceLT, Int.reduceEq, Int.reduceLT, Int.reduceLE, Int.reduceGT, Int.reduceGE, Int.reduceAdd, Int.reduceSub, Int.reduceMul, Int.reduceNeg, Int.reduceToNat, reduceCtorEq, reduceIte, hlt, lenV_sl hu, view_sl hu, scalar_sl hu, cells_sl hu, pure_sl hu, lenV_sl hv, view_sl hv, scalar_sl hv, cells_sl hv, pure_sl hv, elem_py hu, elem_py hv, Int.toNat_natCast, pex_eqS, eq, Option.map_some, if_true, Bool.not_true]
    exact ih (C.length - (m + 1)) _ _ _ (by omega) ⟨m + 1, by omega, rfl, rfl, rfl, rfl, rfl, rfl, rfl⟩
  · simp (disch := first | assumption | omega | (simp only [az]; done)) only [ru, eq_self, if_true, if_false, BEq.rfl, binI, AO.row?, splice, fillL, mmAll, loadV, storeV, zeros, Am.rowAt, Am.part, addOff, Nat.reduceAdd, Nat.reduceMul, Nat.reduceLeDiff, Nat.reduceSub, Nat.reduceLT, Int.reduceEq, Int.reduceLT, Int.reduceLE, Int.reduceGT, Int.reduceGE, Int.reduceAdd, Int.reduceSub, Int.reduceMul, Int.reduceNeg, Int.reduceToNat, reduceCtorEq, reduceIte, hlt, lenV_sl hu, view_sl hu, scalar_sl hu, cells_sl hu, pure_sl hu]
theorem t18 {C : List Nd} {v : AV} (hv : IsSl 3 Nd.e C v) (hl : C.length ≤ 1000) (st : Bool) : Iso E 18 [cuV v] st = some (cuV (slV 3 Nd.e C)) := by
  refine Iso_of (es _ _ _ _) e18 ?_
  simp only [f18]
  obtain ⟨o, h', A, fr, oge, hc⟩ := cpyO (eb := 24) (lim := 0) (h := [.cells [v] false, .cells [.nils] false]) hv Nd.el Nd.sc (by omega) (by omega) (Nat.zero_le _)
  simp only [List.length_cons, List.length_nil, Nat.zero_add, Nat.reduceAdd, List.cons_append, List.nil_append] at A oge
  have h0 : h'[0]? = some (.cells [v] false) := fr.at rfl
  have h1 : h'[1]? = some (.cells [.nils] false) := fr.at rfl
  have k1 : (h'.set 1 (.cells [.ms 3 o 0 C.length] false))[1]? = some (.cells [.ms 3 o 0 C.length] false) := set_own h1
  have k2 : (h'.set 1 (.cells [.ms 3 o 0 C.length] false))[o]? = some (.cells (C.flatMap Nd.e) false) := set_oth hc (by omega)
  have vw : ∀ st n, Am.view st (h'.set 1 (.cells [.ms 3 o 0 C.length] false)) (n + 1) (.ms 3 o 0 C.length) = some (slV 3 Nd.e C) := fun st n => RdC.view (enc := Nd.e) ⟨o, rfl, k2⟩ Nd.el Nd.iv
  simp (disch := first | assumption | omega | (simp only [az]; done)) only [ru, eq_self, if_true, if_false, BEq.rfl, binI, AO.row?, splice, fillL, mmAll, loadV, storeV, zeros, Am.rowAt, Am.part, addOff, Nat.reduceAdd, Nat.reduceMul, Nat.reduceLeDiff, Nat.reduceSub, Nat.reduceLT, Int.reduceEq, Int.reduceLT, Int.reduceLE, Int.reduceGT, Int.reduceGE, Int.reduceAdd, Int.reduceSub, Int.reduceMul, Int.reduceNeg, Int.reduceToNat, reduceCtorEq, reduceIte, lenV_sl hv, view_sl hv, scalar_sl hv, cells_sl hv, pure_sl hv, A, h0, h1, k1, vw, finC, getRes, Option.some.injEq, exists_eq_left', view_agg]
  done
end Go.Proofs.Ytaeijjfgfenfhaa.S

