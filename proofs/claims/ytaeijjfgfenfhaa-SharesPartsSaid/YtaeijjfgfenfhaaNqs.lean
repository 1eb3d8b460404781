/-
Lists of nodes, copies of numbers.
-/
import Derived.Test.YtaeijjfgfenfhaaNq
namespace Go.Proofs.Ytaeijjfgfenfhaa.S
open Go Go.Am Go.Proofs.Ytaeijjfgfenfhaa.T
set_option maxRecDepth 100000
set_option linter.unusedSimpArgs false
set_option linter.unusedVariables false

theorem ofN_at {B : List Nat} {m : Nat} (hm : m < B.length) : (ofN B).getD m 0 = ((B.getD m default : Nat) : Int) := by
  unfold ofN
  rw [List.getD_eq_getElem?_getD, List.getElem?_map, List.getD_eq_getElem?_getD, List.getElem?_eq_getElem hm]; rfl
theorem map_at {B : List Nat} {f : Nat → Int} {m : Nat} (hm : m < B.length) : (B.map f).getD m 0 = f (B.getD m default) := by
  rw [List.getD_eq_getElem?_getD, List.getElem?_map, List.getElem?_eq_getElem hm, List.getD_eq_getElem?_getD, List.getElem?_eq_getElem hm]; rfl
/-- the nodes ahead of one of them -/
theorem bl_take {C : List Nd} {i : Int} : ∀ (n m : Nat), m < (bl C i n).length → (bl C i n).take m = bl C i ((bl C i n).getD m default)
  | 0, m, h => by simp [bl_zero] at h
  | n + 1, m, h => by
    by_cases c : (ndA C n).up = i
    · rw [bl_yes c] at h ⊢
      rw [List.length_append, List.length_singleton] at h
      by_cases e : m = (bl C i n).length
      · subst e
        rw [List.take_append_of_le_length (Nat.le_refl _), List.take_length, List.getD_eq_getElem?_getD, List.getElem?_append_right (Nat.le_refl _)]
        simp
      · have hm : m < (bl C i n).length := by omega
        rw [List.take_append_of_le_length (by omega), bl_take n m hm, List.getD_eq_getElem?_getD, List.getD_eq_getElem?_getD, List.getElem?_append_left hm]
    · rw [bl_no c] at h ⊢
      exact bl_take n m h
theorem coB_iff {C : List Nd} {L : List Int} : coB C L = true ↔ L.length = C.length ∧ ∀ j, j < L.length → 0 ≤ L.getD j 0 ∧ L.getD j 0 ≤ 400 := by
  unfold coB
  simp only [Bool.and_eq_true, decide_eq_true_eq, List.all_eq_true, inR_iff]
  constructor
  · rintro ⟨h1, h2⟩; exact ⟨h1, fun j hj => h2 _ (getD_memI hj)⟩
  · rintro ⟨h1, h2⟩
    refine ⟨h1, fun x hx => ?_⟩
    obtain ⟨j, hj, rfl⟩ := mem_getD (d := 0) hx
    exact h2 j hj
theorem int_hd {l : List Int} {i : Nat} (hi : i < l.length) : ((l.flatMap intL).drop i).head? = some (I (l.getD i 0)) := by
  induction l generalizing i with
  | nil => simp at hi
  | cons a l ih =>
    cases i with
    | zero => rfl
    | succ i => exact ih (i := i) (by simpa using hi)
theorem viewB {l : List Int} {g : List AO} {o : Nat} (hc : g[o]? = some (.cells (l.flatMap intL) false)) {st : Bool} {n : Nat} : Am.view st g (n + 1) (.ms 1 o 0 l.length) = some (slV 1 intL l) := RdC.view (enc := intL) ⟨o, rfl, hc⟩ intE intIv
section
variable {C : List Nd} {v : AV} (hv : IsSl 3 Nd.e C v)
include hv
theorem t56 {L : List Int} {lv : AV} (V : IsSl 1 intL L lv) (hL : L.length ≤ 1000) (st : Bool) : Iso E 56 [cuV v, lv] st = some (Bo (coB C L)) := by
  refine Iso_of (es _ _ _ _) e56 ?_
  simp only [f56]
  by_cases h1 : L.length = C.length
  · have b1 : ((L.length : Int) != C.length) = false := by simp [h1]
    have e0 : coB C L = (List.range L.length).all fun j => inR (L.getD j 0) 0 400 := by
      rw [Bool.eq_iff_iff, coB_iff]
      simp only [List.all_eq_true, List.mem_range, inR_iff]
      exact ⟨fun h => h.2, fun h => ⟨h1, h⟩⟩
    simp (disch := first | assumption | omega | (simp only [az]; done)) only [ru, eq_self, if_true, if_false, BEq.rfl, binI, AO.row?, splice, fillL, mmAll, loadV, storeV, zeros, Am.rowAt, Am.part, addOff, Nat.reduceAdd, Nat.reduceMul, Nat.reduceLeDiff, Nat.reduceSub, Nat.reduceLT, Int.reduceEq, Int.reduceLT, Int.reduceLE, Int.reduceGT, Int.reduceGE, Int.reduceAdd, Int.reduceSub, Int.reduceMul, Int.reduceNeg, Int.reduceToNat, reduceCtorEq, reduceIte, lenV_sl hv, view_sl hv, scalar_sl hv, cells_sl hv, pure_sl hv, lenV_sl V, elem_in V, view_sl V, scalar_sl V, cells_sl V, pure_sl V, Int.toNat_natCast, b1]
    refine G_loop_ind (fun y ts hk mk => ∃ i : Nat, i ≤ L.length ∧ y = L.length - i ∧ ((List.range i).all fun j => inR (L.getD j 0) 0 400) = true ∧ ts.length = 24 ∧ ts.getD 1 .undef = lv ∧ ts.getD 5 .undef = I i ∧ mk = []) ?_ L.length _ _ _ ⟨0, Nat.zero_le _, rfl, rfl, rfl, rfl, rfl, rfl⟩
    rintro y ts hk mk ih ⟨i, hi, rfl, hall, hl', q1, q5, rfl⟩
    rw [lit_all hl']
    simp only [lit0, litS, Nat.reduceAdd, q1, q5]
    by_cases hlt : (i : Int) < L.length
    · have no := fun hp => range_not (N := L.length) (p := fun j => inR (L.getD j 0) 0 400) (show i < L.length by omega) hp
      have nx := fun hp => range_all_succ (p := fun j => inR (L.getD j 0) 0 400) hall hp
      cases hc : inR (L.getD i 0) 0 400
      · have := no hc
        rw [← e0] at this
        simp (disch := first | assumption | omega | (simp only [az]; done)) only [ru, eq_self, if_true, if_false, BEq.rfl, binI, AO.row?, splice, fillL, mmAll, loadV, storeV, zeros, Am.rowAt, Am.part, addOff, Nat.reduceAdd, Nat.reduceMul, Nat.reduceLeDiff, Nat.reduceSub, Nat.reduceLT, Int.reduceEq, Int.reduceLT, Int.reduceLE, Int.reduceGT, Int.reduceGE, Int.reduceAdd, Int.reduceSub, Int.reduceMul, Int.reduceNeg, Int.reduceToNat, reduceCtorEq, reduceIte, hlt, lenV_sl V, elem_in V, view_sl V, scalar_sl V, cells_sl V, pure_sl V, Int.toNat_natCast, t46, hc, Bool.not_false, this]
      · simp (disch := first | assumption | omega | (simp only [az]; done)) only [ru, eq_self, if_true, if_false, BEq.rfl, binI, AO.row?, splice, fillL, mmAll, loadV, storeV, zeros, Am.rowAt, Am.part, addOff, Nat.reduceAdd, Nat.reduceMul, Nat.reduceLeDiff, Nat.reduceSub, Nat.reduceLT, Int.reduceEq, Int.reduceLT, Int.reduceLE, Int.reduceGT, Int.reduceGE, Int.reduceAdd, Int.reduceSub, Int.reduceMul, Int.reduceNeg, Int.reduceToNat, reduceCtorEq, reduceIte, hlt, lenV_sl V, elem_in V, view_sl V, scalar_sl V, cells_sl V, pure_sl V, Int.toNat_natCast, t46, hc, Bool.not_true]
        exact ih (L.length - (i + 1)) _ _ _ (by omega) ⟨i + 1, by omega, rfl, nx hc, rfl, rfl, rfl, rfl⟩
    · obtain rfl : i = L.length := by omega
      rw [← e0] at hall
      simp (disch := first | assumption | omega | (simp only [az]; done)) only [ru, eq_self, if_true, if_false, BEq.rfl, binI, AO.row?, splice, fillL, mmAll, loadV, storeV, zeros, Am.rowAt, Am.part, addOff, Nat.reduceAdd, Nat.reduceMul, Nat.reduceLeDiff, Nat.reduceSub, Nat.reduceLT, Int.reduceEq, Int.reduceLT, Int.reduceLE, Int.reduceGT, Int.reduceGE, Int.reduceAdd, Int.reduceSub, Int.reduceMul, Int.reduceNeg, Int.reduceToNat, reduceCtorEq, reduceIte, hlt, lenV_sl V, elem_in V, view_sl V, scalar_sl V, cells_sl V, pure_sl V, Int.toNat_natCast, hall]
  · have b1 : ((L.length : Int) != C.length) = true := by simp; omega
    have e0 : coB C L = false := by unfold coB; simp [h1]
    simp (disch := first | assumption | omega | (simp only [az]; done)) only [ru, eq_self, if_true, if_false, BEq.rfl, binI, AO.row?, splice, fillL, mmAll, loadV, storeV, zeros, Am.rowAt, Am.part, addOff, Nat.reduceAdd, Nat.reduceMul, Nat.reduceLeDiff, Nat.reduceSub, Nat.reduceLT, Int.reduceEq, Int.reduceLT, Int.reduceLE, Int.reduceGT, Int.reduceGE, Int.reduceAdd, Int.reduceSub, Int.reduceMul, Int.reduceNeg, Int.reduceToNat, reduceCtorEq, reduceIte, lenV_sl hv, view_sl hv, scalar_sl hv, cells_sl hv, pure_sl hv, lenV_sl V, elem_in V, view_sl V, scalar_sl V, cells_sl V, pure_sl V, Int.toNat_natCast, b1, e0]
end
end Go.Proofs.Ytaeijjfgfenfhaa.S

