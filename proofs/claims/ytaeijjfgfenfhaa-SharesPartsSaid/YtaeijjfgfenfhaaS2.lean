/-
The mathematics and the functions, one after another (S2).
-/
import Derived.Test.YtaeijjfgfenfhaaS1
import Derived.Test.YtaeijjfgfenfhaaAmZ

/-
What the specification asks of a custom; the chapter's examples.
-/
namespace Go.Proofs.Ytaeijjfgfenfhaa.S
open Go Go.Am Go.Proofs.Ytaeijjfgfenfhaa.T
set_option maxRecDepth 100000
set_option linter.unusedSimpArgs false
set_option linter.unusedVariables false

theorem t61 (n lo hi : Int) (st : Bool) : Iso E 61 [I n, I lo, I hi] st = some (Bo (inR n lo hi)) := by
  refine Iso_of (es _ _ _ _) e61 ?_
  simp only [f61]
  simp (disch := first | assumption | omega | (simp only [az]; done)) only [ru, eq_self, if_true, if_false, BEq.rfl, binI, AO.row?, splice, fillL, mmAll, loadV, storeV, zeros, Am.rowAt, Am.part, addOff, Nat.reduceAdd, Nat.reduceMul, Nat.reduceLeDiff, Nat.reduceSub, Nat.reduceLT, Int.reduceEq, Int.reduceLT, Int.reduceLE, Int.reduceGT, Int.reduceGE, Int.reduceAdd, Int.reduceSub, Int.reduceMul, Int.reduceNeg, Int.reduceToNat, reduceCtorEq, reduceIte, s57]
theorem t46 (n : Int) (st : Bool) : Iso E 46 [I n] st = some (Bo (inR n 0 400)) := by
  refine Iso_of (es _ _ _ _) e46 ?_
  simp only [f46]
  simp (disch := first | assumption | omega | (simp only [az]; done)) only [ru, eq_self, if_true, if_false, BEq.rfl, binI, AO.row?, splice, fillL, mmAll, loadV, storeV, zeros, Am.rowAt, Am.part, addOff, Nat.reduceAdd, Nat.reduceMul, Nat.reduceLeDiff, Nat.reduceSub, Nat.reduceLT, Int.reduceEq, Int.reduceLT, Int.reduceLE, Int.reduceGT, Int.reduceGE, Int.reduceAdd, Int.reduceSub, Int.reduceMul, Int.reduceNeg, Int.reduceToNat, reduceCtorEq, reduceIte, t61]
/-- two lists that are the same -/
theorem t27' {l : List Int} {u v : AV} (U : IsSl 1 intL l u) (V : IsSl 1 intL l v) (hl : l.length ≤ 100000) (st : Bool) : Iso E 27 [u, v] st = some (Bo true) := by
  refine Iso_of (es _ _ _ _) e27 ?_
  simp only [f27]
  simp (disch := first | assumption | omega | (simp only [az]; done)) only [ru, eq_self, if_true, if_false, BEq.rfl, binI, AO.row?, splice, fillL, mmAll, loadV, storeV, zeros, Am.rowAt, Am.part, addOff, Nat.reduceAdd, Nat.reduceMul, Nat.reduceLeDiff, Nat.reduceSub, Nat.reduceLT, Int.reduceEq, Int.reduceLT, Int.reduceLE, Int.reduceGT, Int.reduceGE, Int.reduceAdd, Int.reduceSub, Int.reduceMul, Int.reduceNeg, Int.reduceToNat, reduceCtorEq, reduceIte, lenV_sl U, elem_in U, view_sl U, scalar_sl U, cells_sl U, pure_sl U, Int.toNat_natCast, lenV_sl V, elem_in V, view_sl V, scalar_sl V, cells_sl V, pure_sl V, Int.toNat_natCast, decide_true, Bool.not_true]
  refine G_loop_ind (fun m ts h mk => ∃ i : Nat, i ≤ l.length ∧ m = l.length - i ∧ ts.length = 26 ∧ ts.getD 0 .undef = u ∧ ts.getD 1 .undef = v ∧ ts.getD 5 .undef = I i ∧ h = [] ∧ mk = []) ?_ _ _ _ _ ⟨0, Nat.zero_le _, rfl, rfl, rfl, rfl, rfl, rfl, rfl⟩
  rintro m ts h mk ih ⟨i, hi, rfl, hl', q0, q1, q5, rfl, rfl⟩
  rw [lit_all hl']
  simp only [lit0, litS, Nat.reduceAdd, q0, q1, q5]
  simp (disch := first | assumption | omega | (simp only [az]; done)) only [ru, eq_self, if_true, if_false, BEq.rfl, binI, AO.row?, splice, fillL, mmAll, loadV, storeV, zeros, Am.rowAt, Am.part, addOff, Nat.reduceAdd, Nat.reduceMul, Nat.reduceLeDiff, Nat.reduceSub, Nat.reduceLT, Int.reduceEq, Int.reduceLT, Int.reduceLE, Int.reduceGT, Int.reduceGE, Int.reduceAdd, Int.reduceSub, Int.reduceMul, Int.reduceNeg, Int.reduceToNat, reduceCtorEq, reduceIte, lenV_sl U, elem_in U, view_sl U, scalar_sl U, cells_sl U, pure_sl U, Int.toNat_natCast]
  by_cases hlt : (i : Int) < l.length
  case pos =>
    simp (disch := first | assumption | omega | (simp only [az]; done)) only [ru, eq_self, if_true, if_false, BEq.rfl, binI, AO.row?, splice, fillL, mmAll, loadV, storeV, zeros, Am.rowAt, Am.part, addOff, Nat.reduceAdd, Nat.reduceMul, Nat.reduceLeDiff, Nat.reduceSub, Nat.reduceLT, Int.reduceEq, Int.reduceLT, Int.reduceLE, Int.reduceGT, Int.reduceGE, Int.reduceAdd, Int.reduceSub, Int.reduceMul, Int.reduceNeg, Int.reduceToNat, reduceCtorEq, reduceIte, lenV_sl U, elem_in U, view_sl U, scalar_sl U, cells_sl U, pure_sl U, Int.toNat_natCast, lenV_sl V, elem_in V, view_sl V, scalar_sl V, cells_sl V, pure_sl V, Int.toNat_natCast, hlt, decide_true, Bool.not_true]
    exact ih (l.length - (i + 1)) _ _ _ (by omega) ⟨i + 1, by omega, rfl, rfl, rfl, rfl, rfl, rfl, rfl⟩
  simp (disch := first | assumption | omega | (simp only [az]; done)) only [ru, eq_self, if_true, if_false, BEq.rfl, binI, AO.row?, splice, fillL, mmAll, loadV, storeV, zeros, Am.rowAt, Am.part, addOff, Nat.reduceAdd, Nat.reduceMul, Nat.reduceLeDiff, Nat.reduceSub, Nat.reduceLT, Int.reduceEq, Int.reduceLT, Int.reduceLE, Int.reduceGT, Int.reduceGE, Int.reduceAdd, Int.reduceSub, Int.reduceMul, Int.reduceNeg, Int.reduceToNat, reduceCtorEq, reduceIte, hlt]
def far (C : List Nd) : Bool := decide ((C.length : Int) > 40)
def ndU (C : List Nd) (j : Nat) : Bool := upOk C j && ndOk (ndA C j)
theorem cuB_nd {C : List Nd} : cuB C = (inR C.length 1 8 && (List.range C.length).all (ndU C)) := by
  unfold cuB
  rw [Bool.and_assoc]
  congr 1
  have h1 : C.all ndOk = (List.range C.length).all fun j => ndOk (ndA C j) := by
    rw [Bool.eq_iff_iff]
    simp only [List.all_eq_true, List.mem_range]
    constructor
    · intro h j hj; exact h _ (by unfold ndA; rw [List.getD_eq_getElem?_getD, List.getElem?_eq_getElem hj]; exact List.getElem_mem hj)
    · intro h x hx
      obtain ⟨j, hj, rfl⟩ := mem_getD (d := default) hx
      exact h j hj
  rw [h1, Bool.eq_iff_iff]
  simp only [Bool.and_eq_true, List.all_eq_true, List.mem_range, ndU]
  exact ⟨fun h j hj => ⟨h.1 j hj, h.2 j hj⟩, fun h => ⟨fun j hj => (h j hj).1, fun j hj => (h j hj).2⟩⟩
section
variable {C : List Nd} {v : AV} (hv : IsSl 3 Nd.e C v)
include hv
theorem t16 (st : Bool) : Iso E 16 [cuV v] st = some (Bo (far C)) := by
  refine Iso_of (es _ _ _ _) e16 ?_
  simp only [f16, far]
  simp (disch := first | assumption | omega | (simp only [az]; done)) only [ru, eq_self, if_true, if_false, BEq.rfl, binI, AO.row?, splice, fillL, mmAll, loadV, storeV, zeros, Am.rowAt, Am.part, addOff, Nat.reduceAdd, Nat.reduceMul, Nat.reduceLeDiff, Nat.reduceSub, Nat.reduceLT, Int.reduceEq, Int.reduceLT, Int.reduceLE, Int.reduceGT, Int.reduceGE, Int.reduceAdd, Int.reduceSub, Int.reduceMul, Int.reduceNeg, Int.reduceToNat, reduceCtorEq, reduceIte, lenV_sl hv, view_sl hv, scalar_sl hv, cells_sl hv, pure_sl hv]
variable (hl : C.length ≤ 1000)
include hl
theorem t49 (n : Int) (st : Bool) : Iso E 49 [cuV v, I n] st = some (Bo (inR n 0 (C.length - 1))) := by
  refine Iso_of (es _ _ _ _) e49 ?_
  simp only [f49]
  have ew := wr64 (n := (C.length : Int) - 1) (by omega) (by omega)
  simp (disch := first | assumption | omega | (simp only [az]; done)) only [ru, eq_self, if_true, if_false, BEq.rfl, binI, AO.row?, splice, fillL, mmAll, loadV, storeV, zeros, Am.rowAt, Am.part, addOff, Nat.reduceAdd, Nat.reduceMul, Nat.reduceLeDiff, Nat.reduceSub, Nat.reduceLT, Int.reduceEq, Int.reduceLT, Int.reduceLE, Int.reduceGT, Int.reduceGE, Int.reduceAdd, Int.reduceSub, Int.reduceMul, Int.reduceNeg, Int.reduceToNat, reduceCtorEq, reduceIte, lenV_sl hv, view_sl hv, scalar_sl hv, cells_sl hv, pure_sl hv, t61, ew]
theorem t20 (st : Bool) : Iso E 20 [cuV v] st = some (I (if cuB C = true then 0 else 100)) := by
  refine Iso_of (es _ _ _ _) e20 ?_
  simp only [f20]
  rw [cuB_nd]
  cases h1 : inR C.length 1 8
  · simp only [Bool.false_and]
    simp (disch := first | assumption | omega | (simp only [az]; done)) only [ru, eq_self, if_true, if_false, BEq.rfl, binI, AO.row?, splice, fillL, mmAll, loadV, storeV, zeros, Am.rowAt, Am.part, addOff, Nat.reduceAdd, Nat.reduceMul, Nat.reduceLeDiff, Nat.reduceSub, Nat.reduceLT, Int.reduceEq, Int.reduceLT, Int.reduceLE, Int.reduceGT, Int.reduceGE, Int.reduceAdd, Int.reduceSub, Int.reduceMul, Int.reduceNeg, Int.reduceToNat, reduceCtorEq, reduceIte, lenV_sl hv, view_sl hv, scalar_sl hv, cells_sl hv, pure_sl hv, t61, h1, Bool.not_false]
  simp only [Bool.true_and]
  simp (disch := first | assumption | omega | (simp only [az]; done)) only [ru, eq_self, if_true, if_false, BEq.rfl, binI, AO.row?, splice, fillL, mmAll, loadV, storeV, zeros, Am.rowAt, Am.part, addOff, Nat.reduceAdd, Nat.reduceMul, Nat.reduceLeDiff, Nat.reduceSub, Nat.reduceLT, Int.reduceEq, Int.reduceLT, Int.reduceLE, Int.reduceGT, Int.reduceGE, Int.reduceAdd, Int.reduceSub, Int.reduceMul, Int.reduceNeg, Int.reduceToNat, reduceCtorEq, reduceIte, lenV_sl hv, view_sl hv, scalar_sl hv, cells_sl hv, pure_sl hv, t61, h1, Bool.not_true]
  refine G_loop_ind (fun y ts hk mk => ∃ i : Nat, i ≤ C.length ∧ y = C.length - i ∧ (List.range i).all (ndU C) = true ∧ hk[0]? = some (.cells [v] false) ∧ ts.length = 53 ∧ ts.getD 1 .undef = .ptr 0 0 ∧ ts.getD 3 .undef = I i ∧ mk = []) ?_ C.length _ _ _ ⟨0, Nat.zero_le _, rfl, rfl, rfl, rfl, rfl, rfl, rfl⟩
  rintro y ts hk mk ih ⟨i, hi, rfl, hall, h0, hl', q1, q3, rfl⟩
  rw [lit_all hl']
  simp only [lit0, litS, Nat.reduceAdd, q1, q3]
  by_cases e : i = C.length
  · subst e
    have c1 : ¬ ((C.length : Nat) : Int) < C.length := by omega
    simp (disch := first | assumption | omega | (simp only [az]; done)) only [ru, eq_self, if_true, if_false, BEq.rfl, binI, AO.row?, splice, fillL, mmAll, loadV, storeV, zeros, Am.rowAt, Am.part, addOff, Nat.reduceAdd, Nat.reduceMul, Nat.reduceLeDiff, Nat.reduceSub, Nat.reduceLT, Int.reduceEq, Int.reduceLT, Int.reduceLE, Int.reduceGT, Int.reduceGE, Int.reduceAdd, Int.reduceSub, Int.reduceMul, Int.reduceNeg, Int.reduceToNat, reduceCtorEq, reduceIte, c1, hall, h0, lenV_sl hv, view_sl hv, scalar_sl hv, cells_sl hv, pure_sl hv]
  · have c1 : ((i : Nat) : Int) < C.length := by omega
    have no := fun hp => range_not (N := C.length) (p := ndU C) (show i < C.length by omega) hp
    have nx := fun hp => range_all_succ (p := ndU C) hall hp
    have u0 : ∀ m, (hk ++ m)[0]? = some (.cells [v] false) := fun m => at_up h0
    have lk := at_len h0
    have fail : ndU C i = false → (List.range C.length).all (ndU C) = false := no
    have tail : ∀ b : Bool, b = upOk C i → ndU C i = (b && (inR (ndA C i).w 0 9 && inR (ndA C i).f 0 20)) := fun b hb => by rw [hb]; rfl
    by_cases e0 : i = 0
    · have b0 : ((i : Int) == 0) = true := by simp [e0]
      have b2 : ¬ ((i : Int) > 0) := by omega
      by_cases eu : (ndA C i).up = -1
      · have b1 : ((ndA C i).up != -1) = false := by simp [eu]
        have hu : upOk C i = true := by unfold upOk; rw [if_pos e0]; simpa using eu
        have hn := tail true hu.symm
        cases hw : inR (ndA C i).w 0 9
        · have := fail (by rw [hn, hw]; rfl)
          simp (disch := first | assumption | omega | (simp only [az]; done)) only [ru, eq_self, if_true, if_false, BEq.rfl, binI, AO.row?, splice, fillL, mmAll, loadV, storeV, zeros, Am.rowAt, Am.part, addOff, Nat.reduceAdd, Nat.reduceMul, Nat.reduceLeDiff, Nat.reduceSub, Nat.reduceLT, Int.reduceEq, Int.reduceLT, Int.reduceLE, Int.reduceGT, Int.reduceGE, Int.reduceAdd, Int.reduceSub, Int.reduceMul, Int.reduceNeg, Int.reduceToNat, reduceCtorEq, reduceIte, c1, h0, u0, lenV_sl hv, view_sl hv, scalar_sl hv, cells_sl hv, pure_sl hv, elem_nd hv, lenE, atT0, setT0, atT, Int.toNat_natCast, b0, b1, b2, decide_false, gUn, t61, hw, Bool.not_false, this]
        · cases hf : inR (ndA C i).f 0 20
          · have := fail (by rw [hn, hw, hf]; rfl)
            simp (disch := first | assumption | omega | (simp only [az]; done)) only [ru, eq_self, if_true, if_false, BEq.rfl, binI, AO.row?, splice, fillL, mmAll, loadV, storeV, zeros, Am.rowAt, Am.part, addOff, Nat.reduceAdd, Nat.reduceMul, Nat.reduceLeDiff, Nat.reduceSub, Nat.reduceLT, Int.reduceEq, Int.reduceLT, Int.reduceLE, Int.reduceGT, Int.reduceGE, Int.reduceAdd, Int.reduceSub, Int.reduceMul, Int.reduceNeg, Int.reduceToNat, reduceCtorEq, reduceIte, c1, h0, u0, lenV_sl hv, view_sl hv, scalar_sl hv, cells_sl hv, pure_sl hv, elem_nd hv, lenE, atT0, setT0, atT, Int.toNat_natCast, b0, b1, b2, decide_false, gUn, t61, hw, hf, Bool.not_true, Bool.not_false, this]
          · simp (disch := first | assumption | omega | (simp only [az]; done)) only [ru, eq_self, if_true, if_false, BEq.rfl, binI, AO.row?, splice, fillL, mmAll, loadV, storeV, zeros, Am.rowAt, Am.part, addOff, Nat.reduceAdd, Nat.reduceMul, Nat.reduceLeDiff, Nat.reduceSub, Nat.reduceLT, Int.reduceEq, Int.reduceLT, Int.reduceLE, Int.reduceGT, Int.reduceGE, Int.reduceAdd, Int.reduceSub, Int.reduceMul, Int.reduceNeg, Int.reduceToNat, reduceCtorEq, reduceIte, c1, h0, u0, lenV_sl hv, view_sl hv, scalar_sl hv, cells_sl hv, pure_sl hv, elem_nd hv, lenE, atT0, setT0, atT, Int.toNat_natCast, b0, b1, b2, decide_false, gUn, t61, hw, hf, Bool.not_true]
            exact ih (C.length - (i + 1)) _ _ _ (by omega) ⟨i + 1, by omega, rfl, nx (by rw [hn, hw, hf]; rfl), u0 _, rfl, rfl, rfl, rfl⟩
      · have b1 : ((ndA C i).up != -1) = true := by simp [eu]
        have hu : upOk C i = false := by unfold upOk; rw [if_pos e0]; simpa using eu
        have := fail (by rw [tail false hu.symm]; rfl)
        simp (disch := first | assumption | omega | (simp only [az]; done)) only [ru, eq_self, if_true, if_false, BEq.rfl, binI, AO.row?, splice, fillL, mmAll, loadV, storeV, zeros, Am.rowAt, Am.part, addOff, Nat.reduceAdd, Nat.reduceMul, Nat.reduceLeDiff, Nat.reduceSub, Nat.reduceLT, Int.reduceEq, Int.reduceLT, Int.reduceLE, Int.reduceGT, Int.reduceGE, Int.reduceAdd, Int.reduceSub, Int.reduceMul, Int.reduceNeg, Int.reduceToNat, reduceCtorEq, reduceIte, c1, h0, u0, lenV_sl hv, view_sl hv, scalar_sl hv, cells_sl hv, pure_sl hv, elem_nd hv, lenE, atT0, setT0, atT, Int.toNat_natCast, b0, b1, gUn, this]
    · have b0 : ((i : Int) == 0) = false := by simp [e0]
      have b1 : (i : Int) > 0 := by omega
      have ew := wr64 (n := (i : Int) - 1) (by omega) (by omega)
      cases hu : inR (ndA C i).up 0 ((i : Int) - 1) with
      | true =>
        have hu' : upOk C i = true := by unfold upOk; rw [if_neg e0]; exact hu
        have hn := tail true hu'.symm
        cases hw : inR (ndA C i).w 0 9
        · have := fail (by rw [hn, hw]; rfl)
          simp (disch := first | assumption | omega | (simp only [az]; done)) only [ru, eq_self, if_true, if_false, BEq.rfl, binI, AO.row?, splice, fillL, mmAll, loadV, storeV, zeros, Am.rowAt, Am.part, addOff, Nat.reduceAdd, Nat.reduceMul, Nat.reduceLeDiff, Nat.reduceSub, Nat.reduceLT, Int.reduceEq, Int.reduceLT, Int.reduceLE, Int.reduceGT, Int.reduceGE, Int.reduceAdd, Int.reduceSub, Int.reduceMul, Int.reduceNeg, Int.reduceToNat, reduceCtorEq, reduceIte, c1, h0, u0, lenV_sl hv, view_sl hv, scalar_sl hv, cells_sl hv, pure_sl hv, elem_nd hv, lenE, atT0, setT0, atT, Int.toNat_natCast, b0, b1, ew, hu, gUn, t61, hw, Bool.not_true, Bool.not_false, this]
        · cases hf : inR (ndA C i).f 0 20
          · have := fail (by rw [hn, hw, hf]; rfl)
            simp (disch := first | assumption | omega | (simp only [az]; done)) only [ru, eq_self, if_true, if_false, BEq.rfl, binI, AO.row?, splice, fillL, mmAll, loadV, storeV, zeros, Am.rowAt, Am.part, addOff, Nat.reduceAdd, Nat.reduceMul, Nat.reduceLeDiff, Nat.reduceSub, Nat.reduceLT, Int.reduceEq, Int.reduceLT, Int.reduceLE, Int.reduceGT, Int.reduceGE, Int.reduceAdd, Int.reduceSub, Int.reduceMul, Int.reduceNeg, Int.reduceToNat, reduceCtorEq, reduceIte, c1, h0, u0, lenV_sl hv, view_sl hv, scalar_sl hv, cells_sl hv, pure_sl hv, elem_nd hv, lenE, atT0, setT0, atT, Int.toNat_natCast, b0, b1, ew, hu, gUn, t61, hw, hf, Bool.not_true, Bool.not_false, this]
          · simp (disch := first | assumption | omega | (simp only [az]; done)) only [ru, eq_self, if_true, if_false, BEq.rfl, binI, AO.row?, splice, fillL, mmAll, loadV, storeV, zeros, Am.rowAt, Am.part, addOff, Nat.reduceAdd, Nat.reduceMul, Nat.reduceLeDiff, Nat.reduceSub, Nat.reduceLT, Int.reduceEq, Int.reduceLT, Int.reduceLE, Int.reduceGT, Int.reduceGE, Int.reduceAdd, Int.reduceSub, Int.reduceMul, Int.reduceNeg, Int.reduceToNat, reduceCtorEq, reduceIte, c1, h0, u0, lenV_sl hv, view_sl hv, scalar_sl hv, cells_sl hv, pure_sl hv, elem_nd hv, lenE, atT0, setT0, atT, Int.toNat_natCast, b0, b1, ew, hu, gUn, t61, hw, hf, Bool.not_true]
            exact ih (C.length - (i + 1)) _ _ _ (by omega) ⟨i + 1, by omega, rfl, nx (by rw [hn, hw, hf]; rfl), u0 _, rfl, rfl, rfl, rfl⟩
      | false =>
        have hu' : upOk C i = false := by unfold upOk; rw [if_neg e0]; exact hu
        have := fail (by rw [tail false hu'.symm]; rfl)
        simp (disch := first | assumption | omega | (simp only [az]; done)) only [ru, eq_self, if_true, if_false, BEq.rfl, binI, AO.row?, splice, fillL, mmAll, loadV, storeV, zeros, Am.rowAt, Am.part, addOff, Nat.reduceAdd, Nat.reduceMul, Nat.reduceLeDiff, Nat.reduceSub, Nat.reduceLT, Int.reduceEq, Int.reduceLT, Int.reduceLE, Int.reduceGT, Int.reduceGE, Int.reduceAdd, Int.reduceSub, Int.reduceMul, Int.reduceNeg, Int.reduceToNat, reduceCtorEq, reduceIte, c1, h0, u0, lenV_sl hv, view_sl hv, scalar_sl hv, cells_sl hv, pure_sl hv, elem_nd hv, lenE, atT0, setT0, atT, Int.toNat_natCast, b0, b1, ew, hu, gUn, t61, Bool.not_false, this]
omit hl in
theorem t45 (st : Bool) : Iso E 45 [cuV v] st = some (Bo (!far C && cuB C)) := by
  refine Iso_of (es _ _ _ _) e45 ?_
  simp only [f45]
  cases hf : far C
  · have hl : C.length ≤ 1000 := by simp only [far, decide_eq_false_iff_not] at hf; omega
    have e : ((if cuB C = true then (0 : Int) else 100) == 0) = cuB C := by cases cuB C <;> rfl
    simp (disch := first | assumption | omega | (simp only [az]; done)) only [ru, eq_self, if_true, if_false, BEq.rfl, binI, AO.row?, splice, fillL, mmAll, loadV, storeV, zeros, Am.rowAt, Am.part, addOff, Nat.reduceAdd, Nat.reduceMul, Nat.reduceLeDiff, Nat.reduceSub, Nat.reduceLT, Int.reduceEq, Int.reduceLT, Int.reduceLE, Int.reduceGT, Int.reduceGE, Int.reduceAdd, Int.reduceSub, Int.reduceMul, Int.reduceNeg, Int.reduceToNat, reduceCtorEq, reduceIte, lenV_sl hv, view_sl hv, scalar_sl hv, cells_sl hv, pure_sl hv, t16 hv, hf, gUn, t20 hv hl, Bool.not_false, e, Bool.true_and]
  · simp (disch := first | assumption | omega | (simp only [az]; done)) only [ru, eq_self, if_true, if_false, BEq.rfl, binI, AO.row?, splice, fillL, mmAll, loadV, storeV, zeros, Am.rowAt, Am.part, addOff, Nat.reduceAdd, Nat.reduceMul, Nat.reduceLeDiff, Nat.reduceSub, Nat.reduceLT, Int.reduceEq, Int.reduceLT, Int.reduceLE, Int.reduceGT, Int.reduceGE, Int.reduceAdd, Int.reduceSub, Int.reduceMul, Int.reduceNeg, Int.reduceToNat, reduceCtorEq, reduceIte, lenV_sl hv, view_sl hv, scalar_sl hv, cells_sl hv, pure_sl hv, t16 hv, hf, gUn, Bool.not_true, Bool.false_and]
end
end Go.Proofs.Ytaeijjfgfenfhaa.S

/-
The chapter's examples.
-/
namespace Go.Proofs.Ytaeijjfgfenfhaa.S
open Go Go.Am Go.Proofs.Ytaeijjfgfenfhaa.T
set_option maxRecDepth 100000
set_option linter.unusedSimpArgs false
set_option linter.unusedVariables false

def exC : List Nd := [⟨-1, 0, 0⟩, ⟨0, 0, 3⟩, ⟨0, 1, 0⟩, ⟨0, 1, 0⟩, ⟨2, 2, 0⟩, ⟨2, 1, 0⟩, ⟨3, 1, 2⟩, ⟨3, 4, 0⟩]
def exD : List Nd := [⟨-1, 0, 0⟩, ⟨0, 1, 0⟩, ⟨0, 1, 0⟩, ⟨0, 4, 0⟩, ⟨0, 4, 0⟩]
def cvC : AV := .cs 3 8 [I (-1), I 0, I 0, I 0, I 0, I 3, I 0, I 1, I 0, I 0, I 1, I 0, I 2, I 2, I 0, I 2, I 1, I 0, I 3, I 1, I 2, I 3, I 4, I 0]
def cvD : AV := .cs 3 5 [I (-1), I 0, I 0, I 0, I 1, I 0, I 0, I 1, I 0, I 0, I 4, I 0, I 0, I 4, I 0]
theorem isC : IsSl 3 Nd.e exC cvC := .inl rfl
theorem isD : IsSl 3 Nd.e exD cvD := .inl rfl
theorem finCC {lim i j s s' : Nat} {a a' : Bool} {P : AV → List AO → Prop} {ts : List AV} {h : List AO} : Done lim [.cell a s i, .cell a' s' j] P .ret ⟨ts, h, []⟩ = ∃ v, getRes ts h (.cell a s i) = some v ∧ ∃ w, getRes ts h (.cell a' s' j) = some w ∧ P (.tup [v, w]) h := by
  simp only [Done, finish, takeMarks, List.all_nil, if_true, List.mapM_cons, List.mapM_nil, Option.bind_eq_bind, Option.pure_def]
  cases getRes ts h (.cell a s i) <;> cases getRes ts h (.cell a' s' j) <;> simp
set_option maxHeartbeats 4000000 in
theorem x59 : Iso E 59 [] false = some (.tup [cuV cvC, cuV cvD]) := by
  refine Iso_of (es _ _ _ _) e59 ?_
  simp only [f59, cvC, cvD]
  have n10 : ((1 : Nat) != 0) = true := rfl
  have n01 : ((0 : Nat) != 1) = true := rfl
  simp (maxSteps := 2000000) (disch := first | assumption | omega | (simp only [az]; done)) only [ru, eq_self, if_true, if_false, BEq.rfl, binI, AO.row?, splice, fillL, mmAll, loadV, storeV, zeros, Am.rowAt, Am.part, addOff, Nat.reduceAdd, Nat.reduceMul, Nat.reduceLeDiff, Nat.reduceSub, Nat.reduceLT, Int.reduceEq, Int.reduceLT, Int.reduceLE, Int.reduceGT, Int.reduceGE, Int.reduceAdd, Int.reduceSub, Int.reduceMul, Int.reduceNeg, Int.reduceToNat, reduceCtorEq, reduceIte, rmr, exOp_litS, exOp_loadR, exOp_storeR, objIs, objNot, objIsA, objNotA, finCC, getRes, Option.some.injEq, exists_eq_left', List.all_cons, List.all_nil, Bool.and_true, n10, n01, view_agg]
theorem x23 : Iso E 23 [cuV cvC, I 42] false = some (.tup [.cs 1 8 [I 0, I 3, I 0, I 0, I 14, I 6, I 6, I 13], I 0]) := by
  have a := t23 isC (by decide) 42
  have f1 : fitE exC (inR 42 0 400) [] = 0 := by decide +kernel
  have f2 : kL exC 42 = [0, 3, 0, 0, 14, 6, 6, 13] := by decide +kernel
  rw [f1, f2] at a
  exact a
theorem x29 (st : Bool) : Iso E 29 [cuV cvC, I 7, I 13] st = some (.tup [I 41, I 0]) := by
  have a := t29 isC (by decide) 7 13 st
  have f1 : fitE exC (inR 7 0 (exC.length - 1) && inR 13 0 400) [] = 0 := by decide +kernel
  have f2 : frN 400 (fun p => decide (gG exC p (7 : Int).toNat ≥ 13)) = 41 := by decide +kernel
  have f3 : frE 400 (fun p => decide (gG exC p (7 : Int).toNat ≥ 13)) = 0 := by decide +kernel
  rw [f1, frA, f2, f3] at a
  exact a
theorem x31 (st : Bool) : Iso E 31 [cuV cvD, I 2] st = some (.tup [I 2, I 0]) := by
  have a := t31 isD (by decide) 2 st
  have f1 : fitE exD (inR 2 0 (exD.length - 1)) [] = 0 := by decide +kernel
  have f2 : frN 399 (fun p => decide (gG exD p (2 : Int).toNat > gG exD (p + 1) (2 : Int).toNat)) = 2 := by decide +kernel
  have f3 : frE 399 (fun p => decide (gG exD p (2 : Int).toNat > gG exD (p + 1) (2 : Int).toNat)) = 0 := by decide +kernel
  rw [f1, frA, f2, f3] at a
  exact a
theorem x33 (st : Bool) : Iso E 33 [cuV cvC, I 7] st = some (.tup [.agg [I 2, I 5], I 0]) := by
  have a := t33 isC (by decide) 7 st
  have f1 : exE exC 7 = 0 := by decide +kernel
  have f2 : exR2 exC 7 = (2, 5) := by decide +kernel
  rw [f1, f2] at a
  exact a
theorem x40 : Iso E 40 [cuV cvC, I 5, .cs 3 1 [I 42, I 5, I 6]] false = some (.tup [.cs 1 1 [I 1], I 0]) := by
  have a := t40 isC (by decide) 5 (L := [⟨42, 5, 6⟩]) (pv := .cs 3 1 [I 42, I 5, I 6]) (.inl rfl) (by decide)
  have f1 : wtE exC 5 [⟨42, 5, 6⟩] = 0 := by decide +kernel
  have f2 : wtL exC (5 : Int).toNat [⟨42, 5, 6⟩] 10 = [1] := by decide +kernel
  rw [f1, f2] at a
  exact a
theorem x42 (st : Bool) : Iso E 42 [cuV cvC, I 5, .nils] st = some (.tup [I 68, I 0]) := by
  have a := t42 isC (by decide) 5 (L := []) (pv := .nils) (.inr ⟨rfl, rfl⟩) (by decide) st
  have f1 : wtE exC 5 [] = 0 := by decide +kernel
  have f2 : wtL exC (5 : Int).toNat [] 10 = [0, 1, 2, 3, 4, 5, 6, 7, 8, 9] := by decide +kernel
  have f3 : frN 400 (fun p => apt exC (5 : Int).toNat p [0, 1, 2, 3, 4, 5, 6, 7, 8, 9]) = 68 := by decide +kernel
  have f4 : frE 400 (fun p => apt exC (5 : Int).toNat p [0, 1, 2, 3, 4, 5, 6, 7, 8, 9]) = 0 := by decide +kernel
  rw [f1, f2, frA, f3, f4] at a
  exact a
theorem x27a (st : Bool) : Iso E 27 [.cs 1 8 [I 0, I 3, I 0, I 0, I 14, I 6, I 6, I 13], .cs 1 8 [I 0, I 3, I 0, I 0, I 14, I 6, I 6, I 13]] st = some (Bo true) := t27' (l := [0, 3, 0, 0, 14, 6, 6, 13]) (.inl rfl) (.inl rfl) (by decide) st
theorem x27b (st : Bool) : Iso E 27 [.cs 1 1 [I 1], .cs 1 1 [I 1]] st = some (Bo true) := t27' (l := [1]) (.inl rfl) (.inl rfl) (by decide) st
set_option maxHeartbeats 4000000 in
theorem t17 (st : Bool) : Iso E 17 [] st = some (Bo true) := by
  refine Iso_of (es _ _ _ _) e17 ?_
  simp only [f17]
  simp (maxSteps := 2000000) (disch := first | assumption | omega | (simp only [az]; done)) only [ru, eq_self, if_true, if_false, BEq.rfl, binI, AO.row?, splice, fillL, mmAll, loadV, storeV, zeros, Am.rowAt, Am.part, addOff, Nat.reduceAdd, Nat.reduceMul, Nat.reduceLeDiff, Nat.reduceSub, Nat.reduceLT, Int.reduceEq, Int.reduceLT, Int.reduceLE, Int.reduceGT, Int.reduceGE, Int.reduceAdd, Int.reduceSub, Int.reduceMul, Int.reduceNeg, Int.reduceToNat, reduceCtorEq, reduceIte, x59, lenV_sl isC, view_sl isC, scalar_sl isC, cells_sl isC, pure_sl isC, lenV_sl isD, view_sl isD, scalar_sl isD, cells_sl isD, pure_sl isD, x23, x29, x31, x33, x40, x42, x27a, x27b, exOp_litS, BEq.rfl, gUn]
  done
end Go.Proofs.Ytaeijjfgfenfhaa.S

/-
One penny more.
-/
namespace Go.Proofs.Ytaeijjfgfenfhaa.S
set_option linter.unusedVariables false
set_option linter.unusedSimpArgs false

section
variable {C : List Nd} (H : CuOk C)
include H
omit H in
/-- of one penny more, what is left is the same, or one more; if it is the same once, it stays so -/
theorem fx_pen {i p : Int} (hp : 0 ≤ p) (m : Nat) (hm : m ≤ C.length) : fxR C (p + 1) (bl C i m) = fxR C p (bl C i m) ∨ fxR C (p + 1) (bl C i m) = fxR C p (bl C i m) + 1 := by
  induction m with
  | zero => right; rfl
  | succ m ih =>
    have ih := ih (by omega)
    by_cases h : (ndA C m).up = i
    · rw [bl_yes h, fxR_snoc, fxR_snoc]
      unfold mn
      rcases ih with e | e <;> rw [e]
      · left; rfl
      · split <;> split <;> omega
    · rw [bl_no h]; exact ih
omit H in
theorem fx_same {i p : Int} {m : Nat} (h : fxR C (p + 1) (bl C i m) = fxR C p (bl C i m)) : ∀ k, m ≤ k → fxR C (p + 1) (bl C i k) = fxR C p (bl C i k) := by
  intro k
  induction k with
  | zero => intro hk; have : m = 0 := by omega
            subst this; exact h
  | succ k ih =>
    intro hk
    by_cases e : m = k + 1
    · subst e; exact h
    · have ih := ih (by omega)
      by_cases hu : (ndA C k).up = i
      · rw [bl_yes hu, fxR_snoc, fxR_snoc, ih]
      · rw [bl_no hu]; exact ih
omit H in
/-- either the rest is the same, and each first part is the same or one more; or the rest is one more, and the first parts are the same -/
theorem pen_cases {i p : Int} (hp : 0 ≤ p) : (rsR C i (p + 1) = rsR C i p ∧ ∀ j, j < C.length → (fvV C i (p + 1) j = fvV C i p j ∨ fvV C i (p + 1) j = fvV C i p j + 1)) ∨ (rsR C i (p + 1) = rsR C i p + 1 ∧ ∀ j, j < C.length → (ndA C j).up = i → fvV C i (p + 1) j = fvV C i p j) := by
  have hfv : ∀ j, j < C.length → fvV C i (p + 1) j = fvV C i p j ∨ fvV C i (p + 1) j = fvV C i p j + 1 := by
    intro j hj
    unfold fvV mn
    rcases fx_pen (C := C) (i := i) hp j (by omega) with e | e
    · rw [e]; left; rfl
    · rw [e]; split <;> split <;> omega
  rcases fx_pen (C := C) (i := i) hp C.length (Nat.le_refl _) with e | e
  · exact .inl ⟨e, hfv⟩
  · refine .inr ⟨e, fun j hj hu => ?_⟩
    have h1 : fxR C (p + 1) (bl C i (j + 1)) = fxR C p (bl C i (j + 1)) + 1 := by
      rcases fx_pen (C := C) (i := i) hp (j + 1) (by omega) with e1 | e1
      · have := fx_same e1 C.length (by omega); omega
      · exact e1
    have h0 : fxR C (p + 1) (bl C i j) = fxR C p (bl C i j) + 1 := by
      rcases fx_pen (C := C) (i := i) hp j (by omega) with e1 | e1
      · have := fx_same e1 C.length (by omega); omega
      · exact e1
    rw [bl_yes hu, fxR_snoc, fxR_snoc, h0] at h1
    unfold fvV
    rw [h0]
    omega
theorem smW_ge {i : Int} {j : Nat} (hj : j < C.length) (hu : (ndA C j).up = i) : (ndA C j).w ≤ rsS C i := by
  have key : ∀ m, m ≤ C.length → 0 ≤ smW C (bl C i m) ∧ (j < m → (ndA C j).w ≤ smW C (bl C i m)) := by
    intro m
    induction m with
    | zero => intro _; exact ⟨by simp [bl_zero, smW], fun h => by omega⟩
    | succ m ih =>
      intro hm
      obtain ⟨g1, g2⟩ := ih (by omega)
      by_cases h : (ndA C m).up = i
      · rw [bl_yes h, smW_snoc]
        have := H.w m (by omega)
        refine ⟨by omega, fun hjm => ?_⟩
        by_cases e : j = m
        · subst e; omega
        · have := g2 (by omega); omega
      · rw [bl_no h]
        exact ⟨g1, fun hjm => g2 (by have : j ≠ m := fun e => h (e ▸ hu); omega)⟩
  exact (key C.length (Nat.le_refl _)).2 hj
/-- a part of one penny more is the same or one more -/
theorem pt_pen {R S : Int} (hR : 0 ≤ R) (hS : 0 < S) {j : Nat} (hj : j < C.length) (hw : (ndA C j).w ≤ S) : pt C (R + 1) S j = pt C R S j ∨ pt C (R + 1) S j = pt C R S j + 1 := by
  obtain ⟨a0, a1, a2⟩ := pt_bd H hR hS hj
  obtain ⟨b0, b1, b2⟩ := pt_bd H (R := R + 1) (by omega) hS hj
  rw [Int.add_mul, Int.one_mul] at b1 b2
  have w0 := (H.w j hj).1
  have l1 : S * pt C R S j < S * (pt C (R + 1) S j + 1) := by rw [Int.mul_add, Int.mul_one]; omega
  have l2 : S * pt C (R + 1) S j < S * (pt C R S j + 2) := by rw [Int.mul_add]; omega
  have l1 := Int.lt_of_mul_lt_mul_left l1 (by omega)
  have l2 := Int.lt_of_mul_lt_mul_left l2 (by omega)
  omega
theorem lf_pen {i R : Int} (hR : 0 ≤ R) (hS : 0 < rsS C i) (m : Nat) (hm : m ≤ C.length) : lfR C (R + 1) (rsS C i) (bl C i m) ≤ lfR C R (rsS C i) (bl C i m) + 1 ∧ (∀ j, j < m → (ndA C j).up = i → pt C (R + 1) (rsS C i) j = pt C R (rsS C i) j + 1 → lfR C (R + 1) (rsS C i) (bl C i m) ≤ lfR C R (rsS C i) (bl C i m)) := by
  induction m with
  | zero => exact ⟨by simp [bl_zero, lfR], fun j hj => by omega⟩
  | succ m ih =>
    obtain ⟨g1, g2⟩ := ih (by omega)
    by_cases h : (ndA C m).up = i
    · rw [bl_yes h, lfR_snoc, lfR_snoc]
      have hp := pt_pen H hR hS (j := m) (by omega) (smW_ge H (by omega) h)
      refine ⟨by omega, fun j hj hu hpj => ?_⟩
      by_cases e : j = m
      · subst e; omega
      · have := g2 j (by omega) hu hpj; omega
    · rw [bl_no h]
      exact ⟨g1, fun j hj hu => g2 j (by have : j ≠ m := fun e => h (e ▸ hu); omega) hu⟩
omit H in
theorem exR_mono {r r' : Int} (h : r ≤ r') : ∀ l : List Nat, exR C r l ≤ exR C r' l := by
  intro l
  refine snocRec (fun l => exR C r l ≤ exR C r' l) l h ?_
  intro l c ih
  rw [exR_snoc, exR_snoc]
  split <;> split
  · omega
  · omega
  · rename_i h1 h2
    have : ¬ 0 < exR C r l := fun h => h1 ⟨h2.1, h⟩
    omega
  · exact ih
omit H in
theorem exV_01 {r : Int} {l : List Nat} {j : Nat} : exV C r l j = 0 ∨ exV C r l j = 1 := by unfold exV; split <;> simp
/-- one penny more: at most one more, at most one less -/
theorem spv_pen {i p : Int} (hp : 0 ≤ p) {j : Nat} (hj : j < C.length) (hu : (ndA C j).up = i) : spv C i (p + 1) j ≤ spv C i p j + 1 ∧ spv C i p j - 1 ≤ spv C i (p + 1) j := by
  have hR := fxR_bd H hp (l := bl C i C.length) (fun j hj => bl_lt (Nat.le_refl _) hj)
  have hR' : 0 ≤ rsR C i p := hR.1
  unfold spv
  rcases pen_cases (C := C) (i := i) hp with ⟨e, hf⟩ | ⟨e, hf⟩
  · have hl : rsL C i (p + 1) = rsL C i p := by unfold rsL; rw [e]
    rw [e, hl]
    have := hf j hj
    split <;> omega
  · have hfj := hf j hj hu
    split
    · omega
    · rename_i hS
      have hS0 := (smW_bd H (l := bl C i C.length) (fun j hj => bl_lt (Nat.le_refl _) hj)).1
      have hS1 : 0 < rsS C i := by unfold rsS at hS ⊢; omega
      rw [hfj, e]
      have hp1 := pt_pen H hR' hS1 hj (smW_ge H hj hu)
      have hx := exV_01 (C := C) (r := rsL C i p) (l := bl C i j) (j := j)
      have hx' := exV_01 (C := C) (r := rsL C i (p + 1)) (l := bl C i j) (j := j)
      rcases hp1 with hp1 | hp1
      · omega
      · have hl : rsL C i (p + 1) ≤ rsL C i p := by
          have := (lf_pen H (i := i) hR' hS1 C.length (Nat.le_refl _)).2 j hj hu hp1
          unfold rsL; rw [e]; exact this
        have hm := exR_mono (C := C) hl (bl C i j)
        have : exV C (rsL C i (p + 1)) (bl C i j) j ≤ exV C (rsL C i p) (bl C i j) j := by
          unfold exV
          split <;> split
          · omega
          · rename_i h1 h2
            exact absurd ⟨h1.1, by omega⟩ h2
          · omega
          · omega
        omega
theorem gG_pen {p : Int} (hp : 0 ≤ p) : ∀ (j : Nat), j < C.length → gG C (p + 1) j ≤ gG C p j + 1 ∧ gG C p j - 1 ≤ gG C (p + 1) j := by
  intro j
  induction j using Nat.strongRecOn with
  | _ j ih =>
    intro hj
    by_cases e : j = 0
    · subst e; rw [gG_zero, gG_zero]; omega
    · have hu := H.up j (by omega) hj
      obtain ⟨i1, i2⟩ := ih (ndA C j).up.toNat (by omega) (by omega)
      have b0 := gG_bd H hp (ndA C j).up.toNat (by omega)
      have b1 := gG_bd H (p := p + 1) (by omega) (ndA C j).up.toNat (by omega)
      rw [gG_eq H (by omega) hj, gG_eq H (by omega) hj]
      obtain ⟨a, ha⟩ : ∃ a, a = gG C p (ndA C j).up.toNat := ⟨_, rfl⟩
      obtain ⟨b, hb⟩ : ∃ b, b = gG C (p + 1) (ndA C j).up.toNat := ⟨_, rfl⟩
      rw [← ha] at i1 i2 b0 ⊢
      rw [← hb] at i1 i2 b1 ⊢
      have : b = a ∨ b = a + 1 ∨ a = b + 1 := by omega
      rcases this with rfl | rfl | rfl
      · omega
      · exact spv_pen H b0.1 hj rfl
      · have := spv_pen H b1.1 hj rfl; omega
end
end Go.Proofs.Ytaeijjfgfenfhaa.S

/-
The inputs of the laws of stage 10, as the abstract machine has them.
-/
namespace Go.Proofs.Ytaeijjfgfenfhaa.S
open Go Go.Am Go.Proofs.Ytaeijjfgfenfhaa.T
set_option linter.unusedVariables false
set_option maxRecDepth 100000

/-- how many times, a node, pence -/
structure Tm where
  t : Int
  n : Int
  p : Int
def Tm.e (x : Tm) : List AV := [I x.t, I x.n, I x.p]
theorem z3 : Try.prog.cellsOf 3 = 1 := by kernel_rfl
theorem z30 : Try.prog.cellsOf 30 = 1 := by kernel_rfl
theorem wfIc {d : Nat} {c : List AV} (h : WfC Try.prog (d + 1) 3 c) : ∃ i, c = [I i] ∧ True := by
  obtain ⟨i, e, hw⟩ := wf_int Try.underlying3 h
  exact ⟨i, e, trivial⟩
theorem wfI {d : Nat} {a : AV} (h : WfC Try.prog (d + 1) 3 [a]) : ∃ i, a = I i ∧ True := by
  obtain ⟨i, e, _⟩ := wfIc h
  simp only [List.cons.injEq, and_true] at e
  exact ⟨i, e, trivial⟩
theorem wfNums {d : Nat} {c : List AV} (h : WfC Try.prog (d + 2) 30 c) : ∃ (l : List Int) (v : AV), c = [v] ∧ IsSl 1 intL l v := by
  obtain ⟨l, v, e, iv, _⟩ := wf_sl (d := d + 1) (enc := intL) (p := fun _ => True) Try.underlying30 z3 (fun c hc => wfIc hc) h
  exact ⟨l, v, e, iv⟩
theorem z60 : Try.prog.cellsOf 60 = 3 := by kernel_rfl
theorem wfNd {d : Nat} {c : List AV} (h : WfC Try.prog (d + 3) 60 c) : ∃ s : Nd, c = s.e ∧ True := by
  obtain ⟨hl, hf⟩ := wf_struct Try.underlying60 h
  rw [z60] at hl
  match c, hl with
  | [x, y, z], _ =>
    have h0 : WfC Try.prog (d + 2) 3 (([x, y, z].drop 0).take (Try.prog.cellsOf 3)) := hf 0 _ rfl
    have h1 : WfC Try.prog (d + 2) 3 (([x, y, z].drop 1).take (Try.prog.cellsOf 3)) := hf 1 _ rfl
    have h2 : WfC Try.prog (d + 2) 3 (([x, y, z].drop 2).take (Try.prog.cellsOf 3)) := hf 2 _ rfl
    rw [z3] at h0 h1 h2
    obtain ⟨i, rfl, _⟩ := wfI (show WfC Try.prog (d + 1 + 1) 3 [x] from h0)
    obtain ⟨j, rfl, _⟩ := wfI (show WfC Try.prog (d + 1 + 1) 3 [y] from h1)
    obtain ⟨k, rfl, _⟩ := wfI (show WfC Try.prog (d + 1 + 1) 3 [z] from h2)
    exact ⟨⟨i, j, k⟩, rfl, trivial⟩
theorem zNS : Try.prog.cellsOf 22 = 1 := by kernel_rfl
theorem zCU : Try.prog.cellsOf 24 = 1 := by kernel_rfl
theorem wfCus {d : Nat} {c : List AV} (h : WfC Try.prog (d + 5) 24 c) : ∃ (C : List Nd) (v : AV), AV.agg c = cuV v ∧ IsSl 3 Nd.e C v := by
  obtain ⟨hl, hf⟩ := wf_struct Try.underlying24 h
  rw [zCU] at hl
  match c, hl with
  | [x], _ =>
    have h0 : WfC Try.prog (d + 4) 22 (([x].drop 0).take (Try.prog.cellsOf 22)) := hf 0 _ rfl
    rw [zNS] at h0
    obtain ⟨L, v, e, iv, _⟩ := wf_sl (d := d + 3) (enc := Nd.e) (p := fun _ => True) Try.underlying22 z60 (fun c hc => wfNd hc) (show WfC Try.prog (d + 4) 22 [x] from h0)
    simp only [List.cons.injEq, and_true] at e
    subst e
    exact ⟨L, _, rfl, iv⟩
theorem z65 : Try.prog.cellsOf 65 = 3 := by kernel_rfl
theorem wfPy {d : Nat} {c : List AV} (h : WfC Try.prog (d + 3) 65 c) : ∃ s : Py, c = s.e ∧ True := by
  obtain ⟨hl, hf⟩ := wf_struct Try.underlying65 h
  rw [z65] at hl
  match c, hl with
  | [x, y, z], _ =>
    have h0 : WfC Try.prog (d + 2) 3 (([x, y, z].drop 0).take (Try.prog.cellsOf 3)) := hf 0 _ rfl
    have h1 : WfC Try.prog (d + 2) 3 (([x, y, z].drop 1).take (Try.prog.cellsOf 3)) := hf 1 _ rfl
    have h2 : WfC Try.prog (d + 2) 3 (([x, y, z].drop 2).take (Try.prog.cellsOf 3)) := hf 2 _ rfl
    rw [z3] at h0 h1 h2
    obtain ⟨i, rfl, _⟩ := wfI (show WfC Try.prog (d + 1 + 1) 3 [x] from h0)
    obtain ⟨j, rfl, _⟩ := wfI (show WfC Try.prog (d + 1 + 1) 3 [y] from h1)
    obtain ⟨k, rfl, _⟩ := wfI (show WfC Try.prog (d + 1 + 1) 3 [z] from h2)
    exact ⟨⟨i, j, k⟩, rfl, trivial⟩
theorem wfPays {d : Nat} {c : List AV} (h : WfC Try.prog (d + 4) 47 c) : ∃ (L : List Py) (v : AV), c = [v] ∧ IsSl 3 Py.e L v := by
  obtain ⟨L, v, e, iv, _⟩ := wf_sl (d := d + 3) (enc := Py.e) (p := fun _ => True) Try.underlying47 z65 (fun c hc => wfPy hc) h
  exact ⟨L, v, e, iv⟩
theorem z69 : Try.prog.cellsOf 69 = 3 := by kernel_rfl
theorem wfTm {d : Nat} {c : List AV} (h : WfC Try.prog (d + 3) 69 c) : ∃ s : Tm, c = s.e ∧ True := by
  obtain ⟨hl, hf⟩ := wf_struct Try.underlying69 h
  rw [z69] at hl
  match c, hl with
  | [x, y, z], _ =>
    have h0 : WfC Try.prog (d + 2) 3 (([x, y, z].drop 0).take (Try.prog.cellsOf 3)) := hf 0 _ rfl
    have h1 : WfC Try.prog (d + 2) 3 (([x, y, z].drop 1).take (Try.prog.cellsOf 3)) := hf 1 _ rfl
    have h2 : WfC Try.prog (d + 2) 3 (([x, y, z].drop 2).take (Try.prog.cellsOf 3)) := hf 2 _ rfl
    rw [z3] at h0 h1 h2
    obtain ⟨i, rfl, _⟩ := wfI (show WfC Try.prog (d + 1 + 1) 3 [x] from h0)
    obtain ⟨j, rfl, _⟩ := wfI (show WfC Try.prog (d + 1 + 1) 3 [y] from h1)
    obtain ⟨k, rfl, _⟩ := wfI (show WfC Try.prog (d + 1 + 1) 3 [z] from h2)
    exact ⟨⟨i, j, k⟩, rfl, trivial⟩
theorem own : ownKnob Try.prog.godebug = none := by kernel_rfl
theorem laidOut : laidOutB Try.prog = true := by kernel_rfl
def cusW : Value := .agg #[.slice none 0 0]
def timW : Value := .agg #[.int .i64 0, .int .i64 0, .int .i64 0]
end Go.Proofs.Ytaeijjfgfenfhaa.S

