/-
Functions of both sides of stage 5, one after another (A2).
-/
import Derived.Test.YtokhneffambgmaaA1

/-
Crews on both sides: is a list one? What it costs, lifts, and whether it holds.
-/
namespace Go.Proofs.Ytokhneffambgmaa.A
open Go Go.Am Go.Proofs.Ytokhneffambgmaa.T
set_option maxRecDepth 100000
set_option linter.unusedSimpArgs false
set_option linter.unusedVariables false

/-- a list that lies in the heap, in an object of its own -/
def RdC {α : Type} (enc : α → List AV) (esz : Nat) (h : List AO) (w : AV) (l : List α) : Prop := ∃ o, w = .ms esz o 0 l.length ∧ h[o]? = some (.cells (l.flatMap enc) false)
section
variable {α : Type} {enc : α → List AV} {esz eb : Nat} {l : List α}
theorem RdC.fr {h h' : List AO} {w : AV} (H : RdC enc esz h w l) (F : Fr h h') : RdC enc esz h' w l := by
  obtain ⟨o, e, hc⟩ := H; exact ⟨o, e, F.at hc⟩
theorem RdC.view {h : List AO} {w : AV} (H : RdC enc esz h w l) (he : ∀ a, (enc a).length = esz) (hi : ∀ a, ∀ x ∈ enc a, ∃ k i, x = .int k i) {st : Bool} {k : Nat} : Am.view st h (k + 1) w = some (slV esz enc l) := by
  obtain ⟨o, rfl, hc⟩ := H
  have e := flat_take (l := l) he
  simp only [view_ms, rowOf_ms, Am.rowAt, hc, Option.bind_some, AO.row?, List.drop_zero, e, flat_len he, if_true, flat_view hi]
  rfl
theorem RdC.sc {h : List AO} {w : AV} (H : RdC enc esz h w l) : w.cells = [w] ∧ w.scalar = true ∧ lenV w = some (I l.length) := by
  obtain ⟨o, rfl, hc⟩ := H; exact ⟨rfl, rfl, rfl⟩
theorem cpyV {v : AV} {h : List AO} {lim : Nat} (hv : IsSl esz enc l v) (he : ∀ a, (enc a).length = esz) (hs : ∀ a, (enc a).all AV.scalar = true) (hb : l.length * eb ≤ 140737488355328) (heb : 1 ≤ eb) (hlim : lim ≤ h.length) :
    ∃ w h', appV lim (h ++ [.cells [] false]) esz eb (.ms esz h.length 0 0) v = some (w, h') ∧ Fr h h' ∧ RdC enc esz h' w l := by
  rw [appV_new hv he hs hb heb _ _ _ atE hlim]
  by_cases hz : l.length = 0
  · rw [if_pos hz]
    refine ⟨_, _, rfl, Fr.app _ _, h.length, by rw [hz], ?_⟩
    rw [List.eq_nil_of_length_eq_zero hz]; exact atE
  · rw [if_neg hz]
    refine ⟨_, _, rfl, ⟨by simp, fun j hj => ?_⟩, (h ++ [AO.cells [] false]).length, rfl, ?_⟩
    · rw [List.getElem?_append_left (by simp; omega), List.getElem?_set_ne (by omega), List.getElem?_append_left hj]
    · rw [List.getElem?_append_right (by simp)]; simp
theorem cpyG {v : AV} {h J : List AO} {lim : Nat} (hv : IsSl esz enc l v) (he : ∀ a, (enc a).length = esz) (hs : ∀ a, (enc a).all AV.scalar = true) (hb : l.length * eb ≤ 140737488355328) (heb : 1 ≤ eb) (hlim : lim ≤ h.length) :
    ∃ w x0 x1, appG true lim (h.length + 1) esz eb (h ++ .cells [] false :: .tomb :: J) (.ms esz h.length 0 0) v = some (w, h ++ x0 :: x1 :: J) ∧ ∀ K, RdC enc esz (h ++ x0 :: x1 :: K) w l := by
  by_cases hz : l.length = 0
  · have e : l = [] := List.eq_nil_of_length_eq_zero hz
    subst e
    refine ⟨.ms esz h.length 0 0, .cells [] false, .tomb, ?_, fun K => ⟨h.length, rfl, by rw [atT0]; rfl⟩⟩
    have hr : Am.rowOf (h ++ .cells [] false :: .tomb :: J) v = some [] := rowOf_sl hv _
    rw [appG_zero (sl := 0) rfl (lenOf_sl hv) hr]
  · refine ⟨.ms esz (h.length + 1) 0 l.length, .ro [], .cells (l.flatMap enc) false, ?_, fun K => ⟨h.length + 1, rfl, by rw [atT]; rfl⟩⟩
    rw [appG_ms (c := []) hz atA0 (by simp) (lenOf_sl hv) (rowOf_sl hv _) (flat_len he l) (scal_sl hs l) (by simpa using hb) heb hlim, setT0, setT]
    simp
end
theorem slice_in {l : List Int} {v : AV} (h : IsSl 1 intL l v) {i : Nat} (hi : i < l.length) : ∃ u, sliceV 1 v none (some (I i)) = some u ∧ IsSl 1 intL (l.take i) u := by
  rcases h with rfl | ⟨rfl, rfl⟩
  · refine ⟨_, ?_, slV_is⟩
    have h1 : (0 : Int) ≤ i ∧ (i : Int) ≤ l.length := by omega
    simp only [sliceV, sliceB, h1, and_self, if_true, Int.toNat_natCast, Nat.zero_mul, List.drop_zero, Nat.sub_zero, Nat.mul_one, slV, List.length_take, Nat.min_eq_left (Nat.le_of_lt hi)]
    congr 2
    clear h1
    induction l generalizing i with
    | nil => simp
    | cons a l ih =>
      cases i with
      | zero => simp
      | succ i => simp only [List.flatMap_cons, List.cons_append, List.nil_append, List.take_succ_cons, ih (by simpa using hi)]
  · simp at hi

theorem s49 {l : List Int} {v : AV} (V : IsSl 1 intL l v) (hl : l.length ≤ 1000) (n : Int) (st : Bool) : Iso E 34 [v, I n] st = some (Bo (decide (n ∈ l))) := by
  refine Iso_of (es _ _ _ _) e34 ?_
  simp only [f34]
  simp (disch := first | assumption | omega | (simp only [az]; done)) only [ru, eq_self, if_true, if_false, BEq.rfl, binI, AO.row?, splice, fillL, mmAll, loadV, storeV, zeros, Am.rowAt, Am.part, addOff, Nat.reduceAdd, Nat.reduceMul, Nat.reduceLeDiff, Nat.reduceSub, Nat.reduceLT, Int.reduceEq, Int.reduceLT, Int.reduceLE, Int.reduceGT, Int.reduceGE, Int.reduceAdd, Int.reduceSub, Int.reduceMul, Int.reduceNeg, Int.reduceToNat, reduceCtorEq, reduceIte]
  refine G_loop_ind (fun m ts h mk => ∃ i : Nat, i ≤ l.length ∧ m = l.length - i ∧ n ∉ l.take i ∧ ts.length = 18 ∧ ts.getD 0 .undef = v ∧ ts.getD 1 .undef = I n ∧ ts.getD 5 .undef = I i ∧ h = [] ∧ mk = []) ?_ _ _ _ _ ⟨0, Nat.zero_le _, rfl, by simp, rfl, rfl, rfl, rfl, rfl, rfl⟩
  rintro m ts h mk ih ⟨i, hi, rfl, hn, hl', q0, q1, q5, rfl, rfl⟩
  rw [lit_all hl']
  simp only [lit0, litS, Nat.reduceAdd, q0, q1, q5]
  simp (disch := first | assumption | omega | (simp only [az]; done)) only [ru, eq_self, if_true, if_false, BEq.rfl, binI, AO.row?, splice, fillL, mmAll, loadV, storeV, zeros, Am.rowAt, Am.part, addOff, Nat.reduceAdd, Nat.reduceMul, Nat.reduceLeDiff, Nat.reduceSub, Nat.reduceLT, Int.reduceEq, Int.reduceLT, Int.reduceLE, Int.reduceGT, Int.reduceGE, Int.reduceAdd, Int.reduceSub, Int.reduceMul, Int.reduceNeg, Int.reduceToNat, reduceCtorEq, reduceIte, lenV_sl V, elem_in V, view_sl V, scalar_sl V, cells_sl V, pure_sl V, Int.toNat_natCast]
  by_cases hlt : (i : Int) < l.length
  case pos =>
    have hi' : i < l.length := by omega
    obtain ⟨x, hx⟩ : ∃ x, x = l.getD i 0 := ⟨_, rfl⟩
    have hm : x ∈ l := by rw [hx]; exact getD_memI hi'
    by_cases hc : x = n
    · have hd : n ∈ l := hc ▸ hm
      simp (disch := first | assumption | omega | (simp only [az]; done)) only [ru, eq_self, if_true, if_false, BEq.rfl, binI, AO.row?, splice, fillL, mmAll, loadV, storeV, zeros, Am.rowAt, Am.part, addOff, Nat.reduceAdd, Nat.reduceMul, Nat.reduceLeDiff, Nat.reduceSub, Nat.reduceLT, Int.reduceEq, Int.reduceLT, Int.reduceLE, Int.reduceGT, Int.reduceGE, Int.reduceAdd, Int.reduceSub, Int.reduceMul, Int.reduceNeg, Int.reduceToNat, reduceCtorEq, reduceIte, lenV_sl V, elem_in V, view_sl V, scalar_sl V, cells_sl V, pure_sl V, Int.toNat_natCast, hlt, ← hx, hc, hd, decide_true]
    · simp (disch := first | assumption | omega | (simp only [az]; done)) only [ru, eq_self, if_true, if_false, BEq.rfl, binI, AO.row?, splice, fillL, mmAll, loadV, storeV, zeros, Am.rowAt, Am.part, addOff, Nat.reduceAdd, Nat.reduceMul, Nat.reduceLeDiff, Nat.reduceSub, Nat.reduceLT, Int.reduceEq, Int.reduceLT, Int.reduceLE, Int.reduceGT, Int.reduceGE, Int.reduceAdd, Int.reduceSub, Int.reduceMul, Int.reduceNeg, Int.reduceToNat, reduceCtorEq, reduceIte, lenV_sl V, elem_in V, view_sl V, scalar_sl V, cells_sl V, pure_sl V, Int.toNat_natCast, hlt, ← hx, hc, decide_false]
      refine ih (l.length - (i + 1)) _ _ _ (by omega) ⟨i + 1, by omega, rfl, ?_, rfl, rfl, rfl, rfl, rfl, rfl⟩
      rw [List.take_succ_eq_append_getElem hi', List.mem_append, List.mem_singleton]
      rintro (h | h)
      · exact hn h
      · rw [List.getD_eq_getElem?_getD, List.getElem?_eq_getElem hi', Option.getD_some] at hx
        exact hc (hx.trans h.symm)
  obtain rfl : i = l.length := by omega
  rw [List.take_length] at hn
  simp (disch := first | assumption | omega | (simp only [az]; done)) only [ru, eq_self, if_true, if_false, BEq.rfl, binI, AO.row?, splice, fillL, mmAll, loadV, storeV, zeros, Am.rowAt, Am.part, addOff, Nat.reduceAdd, Nat.reduceMul, Nat.reduceLeDiff, Nat.reduceSub, Nat.reduceLT, Int.reduceEq, Int.reduceLT, Int.reduceLE, Int.reduceGT, Int.reduceGE, Int.reduceAdd, Int.reduceSub, Int.reduceMul, Int.reduceNeg, Int.reduceToNat, reduceCtorEq, reduceIte, hlt, hn, decide_false]

theorem s130 {l : List Int} {v : AV} (V : IsSl 1 intL l v) (hl : l.length ≤ 1000) (n : Int) : ∃ k : Int, (∀ st, Iso E 79 [v, I n] st = some (I k)) ∧ decide (k ≥ 0) = decide (n ∈ l) := by
  refine (fun x => ?_ : (∃ r h', R E (.fn 79) [v, I n] [] 0 = some (r, h') ∧ ∃ k : Int, r = I k ∧ decide (k ≥ 0) = decide (n ∈ l)) → _) (R_of _ (es _ _ _ _) e79 ?_)
  · obtain ⟨r, h', hr, k, rfl, hk⟩ := x
    exact ⟨k, fun st => by simp only [Iso, hr, view_int], hk⟩
  simp only [f79]
  simp (disch := first | assumption | omega | (simp only [az]; done)) only [ru, eq_self, if_true, if_false, BEq.rfl, binI, AO.row?, splice, fillL, mmAll, loadV, storeV, zeros, Am.rowAt, Am.part, addOff, Nat.reduceAdd, Nat.reduceMul, Nat.reduceLeDiff, Nat.reduceSub, Nat.reduceLT, Int.reduceEq, Int.reduceLT, Int.reduceLE, Int.reduceGT, Int.reduceGE, Int.reduceAdd, Int.reduceSub, Int.reduceMul, Int.reduceNeg, Int.reduceToNat, reduceCtorEq, reduceIte, lenV_sl V]
  refine G_loop_ind (fun m ts h mk => ∃ i : Nat, i ≤ l.length ∧ m = l.length - i ∧ n ∉ l.take i ∧ ts.length = 19 ∧ ts.getD 0 .undef = v ∧ ts.getD 1 .undef = I n ∧ ts.getD 7 .undef = I l.length ∧ ts.getD 8 .undef = I i ∧ h = [] ∧ mk = []) ?_ _ _ _ _ ⟨0, Nat.zero_le _, rfl, by simp, rfl, rfl, rfl, rfl, rfl, rfl, rfl⟩
  rintro m ts h mk ih ⟨i, hi, rfl, hn, hl', q0, q1, q7, q8, rfl, rfl⟩
  rw [lit_all hl']
  simp only [lit0, litS, Nat.reduceAdd, q0, q1, q7, q8]
  simp (disch := first | assumption | omega | (simp only [az]; done)) only [ru, eq_self, if_true, if_false, BEq.rfl, binI, AO.row?, splice, fillL, mmAll, loadV, storeV, zeros, Am.rowAt, Am.part, addOff, Nat.reduceAdd, Nat.reduceMul, Nat.reduceLeDiff, Nat.reduceSub, Nat.reduceLT, Int.reduceEq, Int.reduceLT, Int.reduceLE, Int.reduceGT, Int.reduceGE, Int.reduceAdd, Int.reduceSub, Int.reduceMul, Int.reduceNeg, Int.reduceToNat, reduceCtorEq, reduceIte]
  by_cases hlt : (i : Int) < l.length
  case pos =>
    have hi' : i < l.length := by omega
    obtain ⟨x, hx⟩ : ∃ x, x = l.getD i 0 := ⟨_, rfl⟩
    have hm : x ∈ l := by rw [hx]; exact getD_memI hi'
    by_cases hc : n = x
    · have hd : n ∈ l := hc ▸ hm
      simp (disch := first | assumption | omega | (simp only [az]; done)) only [ru, eq_self, if_true, if_false, BEq.rfl, binI, AO.row?, splice, fillL, mmAll, loadV, storeV, zeros, Am.rowAt, Am.part, addOff, Nat.reduceAdd, Nat.reduceMul, Nat.reduceLeDiff, Nat.reduceSub, Nat.reduceLT, Int.reduceEq, Int.reduceLT, Int.reduceLE, Int.reduceGT, Int.reduceGE, Int.reduceAdd, Int.reduceSub, Int.reduceMul, Int.reduceNeg, Int.reduceToNat, reduceCtorEq, reduceIte, lenV_sl V, elem_in V, view_sl V, scalar_sl V, cells_sl V, pure_sl V, Int.toNat_natCast, hlt, ← hx, ← hc, decide_true]
      exact ⟨i, rfl, by simp [hd]⟩
    · simp (disch := first | assumption | omega | (simp only [az]; done)) only [ru, eq_self, if_true, if_false, BEq.rfl, binI, AO.row?, splice, fillL, mmAll, loadV, storeV, zeros, Am.rowAt, Am.part, addOff, Nat.reduceAdd, Nat.reduceMul, Nat.reduceLeDiff, Nat.reduceSub, Nat.reduceLT, Int.reduceEq, Int.reduceLT, Int.reduceLE, Int.reduceGT, Int.reduceGE, Int.reduceAdd, Int.reduceSub, Int.reduceMul, Int.reduceNeg, Int.reduceToNat, reduceCtorEq, reduceIte, lenV_sl V, elem_in V, view_sl V, scalar_sl V, cells_sl V, pure_sl V, Int.toNat_natCast, hlt, ← hx, hc, decide_false]
      refine ih (l.length - (i + 1)) _ _ _ (by omega) ⟨i + 1, by omega, rfl, ?_, rfl, rfl, rfl, rfl, rfl, rfl, rfl⟩
      rw [List.take_succ_eq_append_getElem hi', List.mem_append, List.mem_singleton]
      rintro (h | h)
      · exact hn h
      · rw [List.getD_eq_getElem?_getD, List.getElem?_eq_getElem hi', Option.getD_some] at hx
        exact hc (h.trans hx.symm)
  obtain rfl : i = l.length := by omega
  rw [List.take_length] at hn
  simp (disch := first | assumption | omega | (simp only [az]; done)) only [ru, eq_self, if_true, if_false, BEq.rfl, binI, AO.row?, splice, fillL, mmAll, loadV, storeV, zeros, Am.rowAt, Am.part, addOff, Nat.reduceAdd, Nat.reduceMul, Nat.reduceLeDiff, Nat.reduceSub, Nat.reduceLT, Int.reduceEq, Int.reduceLT, Int.reduceLE, Int.reduceGT, Int.reduceGE, Int.reduceAdd, Int.reduceSub, Int.reduceMul, Int.reduceNeg, Int.reduceToNat, reduceCtorEq, reduceIte, hlt]
  exact ⟨-1, rfl, by simp [hn]⟩
theorem s122 {l : List Int} {v : AV} (V : IsSl 1 intL l v) (hl : l.length ≤ 1000) (n : Int) (st : Bool) : Iso E 67 [v, I n] st = some (Bo (decide (n ∈ l))) := by
  obtain ⟨k, hr', hk⟩ := s130 V hl n
  refine Iso_of (es _ _ _ _) e67 ?_
  simp only [f67]
  simp (disch := first | assumption | omega | (simp only [az]; done)) only [ru, eq_self, if_true, if_false, BEq.rfl, binI, AO.row?, splice, fillL, mmAll, loadV, storeV, zeros, Am.rowAt, Am.part, addOff, Nat.reduceAdd, Nat.reduceMul, Nat.reduceLeDiff, Nat.reduceSub, Nat.reduceLT, Int.reduceEq, Int.reduceLT, Int.reduceLE, Int.reduceGT, Int.reduceGE, Int.reduceAdd, Int.reduceSub, Int.reduceMul, Int.reduceNeg, Int.reduceToNat, reduceCtorEq, reduceIte, lenV_sl V, elem_in V, view_sl V, scalar_sl V, cells_sl V, pure_sl V, Int.toNat_natCast, hr']
  rw [hk]
end Go.Proofs.Ytokhneffambgmaa.A

/-
Is a list a crew? What a crew costs and lifts, on both sides.
-/
namespace Go.Proofs.Ytokhneffambgmaa.A
open Go Go.Am Go.Proofs.Ytokhneffambgmaa.T
set_option maxRecDepth 100000
set_option linter.unusedSimpArgs false
set_option linter.unusedVariables false

def crI (s : Sea) (l : List Int) (i : Nat) : Bool := inR (l.getD i 0) 0 (s.bo.length - 1) && !decide (l.getD i 0 ∈ l.take i)
def crB (s : Sea) (l : List Int) : Bool := decide (l.length = s.pl.length) && (List.range l.length).all (crI s l)
theorem crB_iff {s : Sea} {l : List Int} : crB s l = true ↔ isCr s l := by
  simp only [crB, Bool.and_eq_true, decide_eq_true_eq, List.all_eq_true, List.mem_range, crI, inR_iff, Bool.not_eq_true', decide_eq_false_iff_not, isCr, okC]
  constructor
  · rintro ⟨h1, h2⟩
    refine ⟨h1, fun x hx => ?_, ?_⟩
    · obtain ⟨i, hi, rfl⟩ := mem_getD (d := 0) hx
      have := (h2 i hi).1; omega
    · rw [List.Nodup, List.pairwise_iff_getElem]
      intro i j hi hj hij e
      refine (h2 j hj).2 ?_
      rw [List.getD_eq_getElem?_getD, List.getElem?_eq_getElem hj, Option.getD_some, ← e]
      exact List.mem_iff_getElem.2 ⟨i, by rw [List.length_take]; omega, by rw [List.getElem_take]⟩
  · rintro ⟨h1, h2, h3⟩
    refine ⟨h1, fun i hi => ⟨?_, fun hm => ?_⟩⟩
    · have := h2 _ (getD_memI hi); omega
    · obtain ⟨j, hj, e⟩ := List.mem_iff_getElem.1 hm
      rw [List.length_take] at hj
      rw [List.getElem_take, List.getD_eq_getElem?_getD, List.getElem?_eq_getElem hi, Option.getD_some] at e
      have := nodup_inj h3 (by omega) hi e
      omega
section
variable {s : Sea} {p b : AV} {l : List Int} {v : AV}

theorem s109 (H : SeaOk s p b) (V : IsSl 1 intL l v) (hl : l.length ≤ 41) (st : Bool) : Iso E 51 [seaV s p b, v] st = some (Bo (crB s l)) := by
  have sp := H.sp; have sb := H.sb
  refine Iso_of (es _ _ _ _) e51 ?_
  simp only [f51, seaV]
  by_cases h1 : l.length = s.pl.length
  case neg =>
    have e : ¬ (l.length : Int) = s.pl.length := by omega
    have ev : crB s l = false := by simp [crB, h1]
    simp (disch := first | assumption | omega | (simp only [az]; done)) only [ru, eq_self, if_true, if_false, BEq.rfl, binI, AO.row?, splice, fillL, mmAll, loadV, storeV, zeros, Am.rowAt, Am.part, addOff, Nat.reduceAdd, Nat.reduceMul, Nat.reduceLeDiff, Nat.reduceSub, Nat.reduceLT, Int.reduceEq, Int.reduceLT, Int.reduceLE, Int.reduceGT, Int.reduceGE, Int.reduceAdd, Int.reduceSub, Int.reduceMul, Int.reduceNeg, Int.reduceToNat, reduceCtorEq, reduceIte, lenV_sl H.p, lenV_sl H.b, elem_sp H.p, elem_bt H.b, view_sl H.p, view_sl H.b, scalar_sl H.p, scalar_sl H.b, cells_sl H.p, cells_sl H.b, pure_sl H.p, pure_sl H.b, Int.toNat_natCast, lenV_sl V, elem_in V, view_sl V, scalar_sl V, cells_sl V, pure_sl V, Int.toNat_natCast, e, ev, decide_false, Bool.not_false]
  have e : (l.length : Int) = s.pl.length := by omega
  have ev : crB s l = (List.range l.length).all (crI s l) := by simp [crB, h1]
  rw [ev]
  simp (disch := first | assumption | omega | (simp only [az]; done)) only [ru, eq_self, if_true, if_false, BEq.rfl, binI, AO.row?, splice, fillL, mmAll, loadV, storeV, zeros, Am.rowAt, Am.part, addOff, Nat.reduceAdd, Nat.reduceMul, Nat.reduceLeDiff, Nat.reduceSub, Nat.reduceLT, Int.reduceEq, Int.reduceLT, Int.reduceLE, Int.reduceGT, Int.reduceGE, Int.reduceAdd, Int.reduceSub, Int.reduceMul, Int.reduceNeg, Int.reduceToNat, reduceCtorEq, reduceIte, lenV_sl H.p, lenV_sl H.b, elem_sp H.p, elem_bt H.b, view_sl H.p, view_sl H.b, scalar_sl H.p, scalar_sl H.b, cells_sl H.p, cells_sl H.b, pure_sl H.p, pure_sl H.b, Int.toNat_natCast, lenV_sl V, elem_in V, view_sl V, scalar_sl V, cells_sl V, pure_sl V, Int.toNat_natCast, e, decide_true, Bool.not_true]
  refine G_loop_ind (fun m ts h mk => ∃ i : Nat, i ≤ l.length ∧ m = l.length - i ∧ (List.range i).all (crI s l) = true ∧ ts.length = 35 ∧ ts.getD 1 .undef = v ∧ ts.getD 2 .undef = .ptr 0 0 ∧ ts.getD 13 .undef = v ∧ ts.getD 14 .undef = I s.pl.length ∧ ts.getD 15 .undef = I i ∧ h = [.cells [I s.w.lo, I s.w.hi, p, b] false] ∧ mk = []) ?_ _ _ _ _
    ⟨0, Nat.zero_le _, rfl, rfl, rfl, rfl, rfl, rfl, rfl, rfl, rfl, rfl⟩
  rintro m ts h mk ih ⟨i, hi, rfl, hall, hl', q1, q2, q13, q14, q15, rfl, rfl⟩
  rw [lit_all hl']
  simp only [lit0, litS, Nat.reduceAdd, q1, q2, q13, q14, q15]
  simp (disch := first | assumption | omega | (simp only [az]; done)) only [ru, eq_self, if_true, if_false, BEq.rfl, binI, AO.row?, splice, fillL, mmAll, loadV, storeV, zeros, Am.rowAt, Am.part, addOff, Nat.reduceAdd, Nat.reduceMul, Nat.reduceLeDiff, Nat.reduceSub, Nat.reduceLT, Int.reduceEq, Int.reduceLT, Int.reduceLE, Int.reduceGT, Int.reduceGE, Int.reduceAdd, Int.reduceSub, Int.reduceMul, Int.reduceNeg, Int.reduceToNat, reduceCtorEq, reduceIte]
  by_cases hlt : (i : Int) < s.pl.length
  case pos =>
    have hi' : i < l.length := by omega
    have hlt2 : (i : Int) < l.length := by omega
    obtain ⟨u, hu, U⟩ := slice_in V hi'
    obtain ⟨x, hx⟩ : ∃ x, x = l.getD i 0 := ⟨_, rfl⟩
    have g := fun st => s122 U (by rw [List.length_take]; omega) x st
    cases hc : inR x 0 (s.bo.length - 1)
    · have hf : crI s l i = false := by simp only [crI, ← hx, hc, Bool.false_and]
      have ev := range_not (N := l.length) hi' hf
      simp (disch := first | assumption | omega | (simp only [az]; done)) only [ru, eq_self, if_true, if_false, BEq.rfl, binI, AO.row?, splice, fillL, mmAll, loadV, storeV, zeros, Am.rowAt, Am.part, addOff, Nat.reduceAdd, Nat.reduceMul, Nat.reduceLeDiff, Nat.reduceSub, Nat.reduceLT, Int.reduceEq, Int.reduceLT, Int.reduceLE, Int.reduceGT, Int.reduceGE, Int.reduceAdd, Int.reduceSub, Int.reduceMul, Int.reduceNeg, Int.reduceToNat, reduceCtorEq, reduceIte, lenV_sl H.p, lenV_sl H.b, elem_sp H.p, elem_bt H.b, view_sl H.p, view_sl H.b, scalar_sl H.p, scalar_sl H.b, cells_sl H.p, cells_sl H.b, pure_sl H.p, pure_sl H.b, Int.toNat_natCast, lenV_sl V, elem_in V, view_sl V, scalar_sl V, cells_sl V, pure_sl V, Int.toNat_natCast, hlt, hlt2, ← hx, s118, hc, gUn, ev, Bool.not_false]
    by_cases hd : x ∈ l.take i
    · have hf : crI s l i = false := by simp only [crI, ← hx, hc, hd, decide_true, Bool.not_true, Bool.and_false]
      have ev := range_not (N := l.length) hi' hf
      simp (disch := first | assumption | omega | (simp only [az]; done)) only [ru, eq_self, if_true, if_false, BEq.rfl, binI, AO.row?, splice, fillL, mmAll, loadV, storeV, zeros, Am.rowAt, Am.part, addOff, Nat.reduceAdd, Nat.reduceMul, Nat.reduceLeDiff, Nat.reduceSub, Nat.reduceLT, Int.reduceEq, Int.reduceLT, Int.reduceLE, Int.reduceGT, Int.reduceGE, Int.reduceAdd, Int.reduceSub, Int.reduceMul, Int.reduceNeg, Int.reduceToNat, reduceCtorEq, reduceIte, lenV_sl H.p, lenV_sl H.b, elem_sp H.p, elem_bt H.b, view_sl H.p, view_sl H.b, scalar_sl H.p, scalar_sl H.b, cells_sl H.p, cells_sl H.b, pure_sl H.p, pure_sl H.b, Int.toNat_natCast, lenV_sl V, elem_in V, view_sl V, scalar_sl V, cells_sl V, pure_sl V, Int.toNat_natCast, hlt, hlt2, ← hx, s118, hc, hu, view_sl U, g, hd, decide_true, ev, Bool.not_true]
    · have ht : crI s l i = true := by simp only [crI, ← hx, hc, hd, decide_false, Bool.not_false, Bool.and_true]
      simp (disch := first | assumption | omega | (simp only [az]; done)) only [ru, eq_self, if_true, if_false, BEq.rfl, binI, AO.row?, splice, fillL, mmAll, loadV, storeV, zeros, Am.rowAt, Am.part, addOff, Nat.reduceAdd, Nat.reduceMul, Nat.reduceLeDiff, Nat.reduceSub, Nat.reduceLT, Int.reduceEq, Int.reduceLT, Int.reduceLE, Int.reduceGT, Int.reduceGE, Int.reduceAdd, Int.reduceSub, Int.reduceMul, Int.reduceNeg, Int.reduceToNat, reduceCtorEq, reduceIte, lenV_sl H.p, lenV_sl H.b, elem_sp H.p, elem_bt H.b, view_sl H.p, view_sl H.b, scalar_sl H.p, scalar_sl H.b, cells_sl H.p, cells_sl H.b, pure_sl H.p, pure_sl H.b, Int.toNat_natCast, lenV_sl V, elem_in V, view_sl V, scalar_sl V, cells_sl V, pure_sl V, Int.toNat_natCast, hlt, hlt2, ← hx, s118, hc, hu, view_sl U, g, hd, decide_false, Bool.not_true]
      exact ih (l.length - (i + 1)) _ _ _ (by omega) ⟨i + 1, by omega, rfl, range_all_succ hall ht, rfl, rfl, rfl, rfl, rfl, rfl, rfl, rfl⟩
  obtain rfl : i = l.length := by omega
  simp (disch := first | assumption | omega | (simp only [az]; done)) only [ru, eq_self, if_true, if_false, BEq.rfl, binI, AO.row?, splice, fillL, mmAll, loadV, storeV, zeros, Am.rowAt, Am.part, addOff, Nat.reduceAdd, Nat.reduceMul, Nat.reduceLeDiff, Nat.reduceSub, Nat.reduceLT, Int.reduceEq, Int.reduceLT, Int.reduceLE, Int.reduceGT, Int.reduceGE, Int.reduceAdd, Int.reduceSub, Int.reduceMul, Int.reduceNeg, Int.reduceToNat, reduceCtorEq, reduceIte, hlt, hall]

set_option maxHeartbeats 1000000 in
theorem s26 (H : SeaOk s p b) (V : IsSl 1 intL l v) (hl : l.length ≤ 41) (st : Bool) : Iso E 14 [seaV s p b, v] st = some (Bo (crB s l)) := by
  have sp := H.sp; have sb := H.sb
  refine Iso_of (es _ _ _ _) e14 ?_
  simp only [f14, seaV]
  by_cases h1 : l.length = s.pl.length
  case neg =>
    have e : ¬ (l.length : Int) = s.pl.length := by omega
    have ev : crB s l = false := by simp [crB, h1]
    simp (disch := first | assumption | omega | (simp only [az]; done)) only [ru, eq_self, if_true, if_false, BEq.rfl, binI, AO.row?, splice, fillL, mmAll, loadV, storeV, zeros, Am.rowAt, Am.part, addOff, Nat.reduceAdd, Nat.reduceMul, Nat.reduceLeDiff, Nat.reduceSub, Nat.reduceLT, Int.reduceEq, Int.reduceLT, Int.reduceLE, Int.reduceGT, Int.reduceGE, Int.reduceAdd, Int.reduceSub, Int.reduceMul, Int.reduceNeg, Int.reduceToNat, reduceCtorEq, reduceIte, lenV_sl H.p, lenV_sl H.b, elem_sp H.p, elem_bt H.b, view_sl H.p, view_sl H.b, scalar_sl H.p, scalar_sl H.b, cells_sl H.p, cells_sl H.b, pure_sl H.p, pure_sl H.b, Int.toNat_natCast, lenV_sl V, elem_in V, view_sl V, scalar_sl V, cells_sl V, pure_sl V, Int.toNat_natCast, e, ev, decide_false, Bool.not_false]
  have e : (l.length : Int) = s.pl.length := by omega
  have ev : crB s l = (List.range l.length).all (crI s l) := by simp [crB, h1]
  rw [ev]
  simp (disch := first | assumption | omega | (simp only [az]; done)) only [ru, eq_self, if_true, if_false, BEq.rfl, binI, AO.row?, splice, fillL, mmAll, loadV, storeV, zeros, Am.rowAt, Am.part, addOff, Nat.reduceAdd, Nat.reduceMul, Nat.reduceLeDiff, Nat.reduceSub, Nat.reduceLT, Int.reduceEq, Int.reduceLT, Int.reduceLE, Int.reduceGT, Int.reduceGE, Int.reduceAdd, Int.reduceSub, Int.reduceMul, Int.reduceNeg, Int.reduceToNat, reduceCtorEq, reduceIte, lenV_sl H.p, lenV_sl H.b, elem_sp H.p, elem_bt H.b, view_sl H.p, view_sl H.b, scalar_sl H.p, scalar_sl H.b, cells_sl H.p, cells_sl H.b, pure_sl H.p, pure_sl H.b, Int.toNat_natCast, lenV_sl V, elem_in V, view_sl V, scalar_sl V, cells_sl V, pure_sl V, Int.toNat_natCast, e, decide_true, Bool.not_true]
  refine G_loop_ind (fun m ts h mk => ∃ i : Nat, i ≤ l.length ∧ m = l.length - i ∧ (List.range i).all (crI s l) = true ∧ ts.length = 37 ∧ ts.getD 1 .undef = v ∧ ts.getD 2 .undef = .ptr 0 0 ∧ ts.getD 5 .undef = I i ∧ h[0]? = some (.cells [I s.w.lo, I s.w.hi, p, b] false) ∧ mk = []) ?_ _ _ _ _
    ⟨0, Nat.zero_le _, rfl, rfl, rfl, rfl, rfl, rfl, rfl, rfl⟩
  rintro m ts h mk ih ⟨i, hi, rfl, hall, hl', q1, q2, q5, h0, rfl⟩
  rw [lit_all hl']
  simp only [lit0, litS, Nat.reduceAdd, q1, q2, q5]
  simp (disch := first | assumption | omega | (simp only [az]; done)) only [ru, eq_self, if_true, if_false, BEq.rfl, binI, AO.row?, splice, fillL, mmAll, loadV, storeV, zeros, Am.rowAt, Am.part, addOff, Nat.reduceAdd, Nat.reduceMul, Nat.reduceLeDiff, Nat.reduceSub, Nat.reduceLT, Int.reduceEq, Int.reduceLT, Int.reduceLE, Int.reduceGT, Int.reduceGE, Int.reduceAdd, Int.reduceSub, Int.reduceMul, Int.reduceNeg, Int.reduceToNat, reduceCtorEq, reduceIte, lenV_sl V, elem_in V, view_sl V, scalar_sl V, cells_sl V, pure_sl V, Int.toNat_natCast]
  by_cases hlt : (i : Int) < l.length
  case pos =>
    have hi' : i < l.length := by omega
    obtain ⟨u, hu, U⟩ := slice_in V hi'
    obtain ⟨x, hx⟩ : ∃ x, x = l.getD i 0 := ⟨_, rfl⟩
    have n0 := (List.getElem?_eq_some_iff.1 h0).1
    have tl : (l.take i).length ≤ 41 := by rw [List.length_take]; omega
    obtain ⟨w, x0, x1, A, RD⟩ := cpyG (eb := 8) (lim := 0) (J := []) (h := h) U intE intSc (by omega) (by omega) (Nat.zero_le _)
    have rv := fun st => (RD []).view intE intIv (st := st) (k := 7)
    have g := fun st => s49 (slV_is (l := l.take i)) (by omega) x st
    have g47 := fun st => s47 H x st
    simp only [seaV] at g47
    obtain ⟨cw, cs, cl⟩ := (RD []).sc
    cases hc : inR x 0 (s.bo.length - 1)
    · have hf : crI s l i = false := by simp only [crI, ← hx, hc, Bool.false_and]
      have ev := range_not (N := l.length) hi' hf
      simp (disch := first | assumption | omega | (simp only [az]; done)) only [ru, eq_self, if_true, if_false, BEq.rfl, binI, AO.row?, splice, fillL, mmAll, loadV, storeV, zeros, Am.rowAt, Am.part, addOff, Nat.reduceAdd, Nat.reduceMul, Nat.reduceLeDiff, Nat.reduceSub, Nat.reduceLT, Int.reduceEq, Int.reduceLT, Int.reduceLE, Int.reduceGT, Int.reduceGE, Int.reduceAdd, Int.reduceSub, Int.reduceMul, Int.reduceNeg, Int.reduceToNat, reduceCtorEq, reduceIte, lenV_sl H.p, lenV_sl H.b, elem_sp H.p, elem_bt H.b, view_sl H.p, view_sl H.b, scalar_sl H.p, scalar_sl H.b, cells_sl H.p, cells_sl H.b, pure_sl H.p, pure_sl H.b, Int.toNat_natCast, lenV_sl V, elem_in V, view_sl V, scalar_sl V, cells_sl V, pure_sl V, Int.toNat_natCast, hlt, ← hx, h0, n0, at_ap, g47, hc, gUn, ev, Bool.not_false]
    by_cases hd : x ∈ l.take i
    · have hf : crI s l i = false := by simp only [crI, ← hx, hc, hd, decide_true, Bool.not_true, Bool.and_false]
      have ev := range_not (N := l.length) hi' hf
      simp (disch := first | assumption | omega | (simp only [az]; done)) only [ru, eq_self, if_true, if_false, BEq.rfl, binI, AO.row?, splice, fillL, mmAll, loadV, storeV, zeros, Am.rowAt, Am.part, addOff, Nat.reduceAdd, Nat.reduceMul, Nat.reduceLeDiff, Nat.reduceSub, Nat.reduceLT, Int.reduceEq, Int.reduceLT, Int.reduceLE, Int.reduceGT, Int.reduceGE, Int.reduceAdd, Int.reduceSub, Int.reduceMul, Int.reduceNeg, Int.reduceToNat, reduceCtorEq, reduceIte, lenV_sl H.p, lenV_sl H.b, elem_sp H.p, elem_bt H.b, view_sl H.p, view_sl H.b, scalar_sl H.p, scalar_sl H.b, cells_sl H.p, cells_sl H.b, pure_sl H.p, pure_sl H.b, Int.toNat_natCast, lenV_sl V, elem_in V, view_sl V, scalar_sl V, cells_sl V, pure_sl V, Int.toNat_natCast, hlt, ← hx, h0, n0, at_ap, g47, hc, gUn, Bool.not_true, GO_mapp, unhN, unhC, setT, setT0, getT, getT0, atT, atT0, hu, A, rv, g, hd, decide_true, ev]
    · have ht : crI s l i = true := by simp only [crI, ← hx, hc, hd, decide_false, Bool.not_false, Bool.and_true]
      simp (disch := first | assumption | omega | (simp only [az]; done)) only [ru, eq_self, if_true, if_false, BEq.rfl, binI, AO.row?, splice, fillL, mmAll, loadV, storeV, zeros, Am.rowAt, Am.part, addOff, Nat.reduceAdd, Nat.reduceMul, Nat.reduceLeDiff, Nat.reduceSub, Nat.reduceLT, Int.reduceEq, Int.reduceLT, Int.reduceLE, Int.reduceGT, Int.reduceGE, Int.reduceAdd, Int.reduceSub, Int.reduceMul, Int.reduceNeg, Int.reduceToNat, reduceCtorEq, reduceIte, lenV_sl H.p, lenV_sl H.b, elem_sp H.p, elem_bt H.b, view_sl H.p, view_sl H.b, scalar_sl H.p, scalar_sl H.b, cells_sl H.p, cells_sl H.b, pure_sl H.p, pure_sl H.b, Int.toNat_natCast, lenV_sl V, elem_in V, view_sl V, scalar_sl V, cells_sl V, pure_sl V, Int.toNat_natCast, hlt, ← hx, h0, n0, at_ap, g47, hc, gUn, Bool.not_true, GO_mapp, unhN, unhC, setT, setT0, getT, getT0, atT, atT0, hu, A, rv, g, hd, decide_false]
      exact ih (l.length - (i + 1)) _ _ _ (by omega) ⟨i + 1, by omega, rfl, range_all_succ hall ht, rfl, rfl, rfl, rfl, by rw [at_ap n0]; exact h0, rfl⟩
  obtain rfl : i = l.length := by omega
  simp (disch := first | assumption | omega | (simp only [az]; done)) only [ru, eq_self, if_true, if_false, BEq.rfl, binI, AO.row?, splice, fillL, mmAll, loadV, storeV, zeros, Am.rowAt, Am.part, addOff, Nat.reduceAdd, Nat.reduceMul, Nat.reduceLeDiff, Nat.reduceSub, Nat.reduceLT, Int.reduceEq, Int.reduceLT, Int.reduceLE, Int.reduceGT, Int.reduceGE, Int.reduceAdd, Int.reduceSub, Int.reduceMul, Int.reduceNeg, Int.reduceToNat, reduceCtorEq, reduceIte, hlt, hall]

theorem s78 (H : SeaOk s p b) (V : IsSl 1 intL l v) (hl : l.length ≤ 41) (st : Bool) : Iso E 35 [seaV s p b, v] st = some (I (aE s.valid (crB s l) 1)) := by
  have g1 := fun st => s52 H st
  have g2 := fun st => s109 H V hl st
  refine Iso_of (es _ _ _ _) e35 ?_
  simp only [f35, seaV] at g1 g2 ⊢
  obtain ⟨q, hq⟩ : ∃ q, q = crB s l := ⟨_, rfl⟩
  simp only [← hq] at g2 ⊢
  cases hv : s.valid
  · simp (disch := first | assumption | omega | (simp only [az]; done)) only [ru, eq_self, if_true, if_false, BEq.rfl, binI, AO.row?, splice, fillL, mmAll, loadV, storeV, zeros, Am.rowAt, Am.part, addOff, Nat.reduceAdd, Nat.reduceMul, Nat.reduceLeDiff, Nat.reduceSub, Nat.reduceLT, Int.reduceEq, Int.reduceLT, Int.reduceLE, Int.reduceGT, Int.reduceGE, Int.reduceAdd, Int.reduceSub, Int.reduceMul, Int.reduceNeg, Int.reduceToNat, reduceCtorEq, reduceIte, lenV_sl H.p, lenV_sl H.b, elem_sp H.p, elem_bt H.b, view_sl H.p, view_sl H.b, scalar_sl H.p, scalar_sl H.b, cells_sl H.p, cells_sl H.b, pure_sl H.p, pure_sl H.b, Int.toNat_natCast, lenV_sl V, elem_in V, view_sl V, scalar_sl V, cells_sl V, pure_sl V, Int.toNat_natCast, g1, hv, vE, aE, gUn, Bool.false_eq_true]
  · cases q <;> simp (disch := first | assumption | omega | (simp only [az]; done)) only [ru, eq_self, if_true, if_false, BEq.rfl, binI, AO.row?, splice, fillL, mmAll, loadV, storeV, zeros, Am.rowAt, Am.part, addOff, Nat.reduceAdd, Nat.reduceMul, Nat.reduceLeDiff, Nat.reduceSub, Nat.reduceLT, Int.reduceEq, Int.reduceLT, Int.reduceLE, Int.reduceGT, Int.reduceGE, Int.reduceAdd, Int.reduceSub, Int.reduceMul, Int.reduceNeg, Int.reduceToNat, reduceCtorEq, reduceIte, lenV_sl H.p, lenV_sl H.b, elem_sp H.p, elem_bt H.b, view_sl H.p, view_sl H.b, scalar_sl H.p, scalar_sl H.b, cells_sl H.p, cells_sl H.b, pure_sl H.p, pure_sl H.b, Int.toNat_natCast, lenV_sl V, elem_in V, view_sl V, scalar_sl V, cells_sl V, pure_sl V, Int.toNat_natCast, g1, g2, hv, vE, aE, Bool.not_false, Bool.not_true, Bool.false_eq_true]

/-! of a crew -/
theorem s123 (H : SeaOk s p b) (K : SeaG s) (V : IsSl 1 intL l v) (hl : l.length ≤ 41) (hc : ∀ i, i < l.length → 0 ≤ l.getD i 0 ∧ l.getD i 0 < s.bo.length) (st : Bool) : Iso E 65 [seaV s p b, v] st = some (I (cst s l)) := by
  refine Iso_of (es _ _ _ _) e65 ?_
  simp only [f65, seaV]
  simp (disch := first | assumption | omega | (simp only [az]; done)) only [ru, eq_self, if_true, if_false, BEq.rfl, binI, AO.row?, splice, fillL, mmAll, loadV, storeV, zeros, Am.rowAt, Am.part, addOff, Nat.reduceAdd, Nat.reduceMul, Nat.reduceLeDiff, Nat.reduceSub, Nat.reduceLT, Int.reduceEq, Int.reduceLT, Int.reduceLE, Int.reduceGT, Int.reduceGE, Int.reduceAdd, Int.reduceSub, Int.reduceMul, Int.reduceNeg, Int.reduceToNat, reduceCtorEq, reduceIte, lenV_sl H.p, lenV_sl H.b, elem_sp H.p, elem_bt H.b, view_sl H.p, view_sl H.b, scalar_sl H.p, scalar_sl H.b, cells_sl H.p, cells_sl H.b, pure_sl H.p, pure_sl H.b, Int.toNat_natCast, lenV_sl V, elem_in V, view_sl V, scalar_sl V, cells_sl V, pure_sl V, Int.toNat_natCast]
  refine G_loop_ind (fun m ts h mk => ∃ i : Nat, i ≤ l.length ∧ m = l.length - i ∧ ts.length = 25 ∧ ts.getD 2 .undef = .ptr 0 0 ∧ ts.getD 5 .undef = I (cstU s l i) ∧ ts.getD 8 .undef = v ∧ ts.getD 9 .undef = I l.length ∧ ts.getD 10 .undef = I i ∧ h = [.cells [I s.w.lo, I s.w.hi, p, b] false] ∧ mk = []) ?_ _ _ _ _
    ⟨0, Nat.zero_le _, rfl, rfl, rfl, rfl, rfl, rfl, rfl, rfl, rfl⟩
  rintro m ts h mk ih ⟨i, hi, rfl, hl', q2, q5, q8, q9, q10, rfl, rfl⟩
  rw [lit_all hl']
  simp only [lit0, litS, Nat.reduceAdd, q2, q5, q8, q9, q10]
  simp (disch := first | assumption | omega | (simp only [az]; done)) only [ru, eq_self, if_true, if_false, BEq.rfl, binI, AO.row?, splice, fillL, mmAll, loadV, storeV, zeros, Am.rowAt, Am.part, addOff, Nat.reduceAdd, Nat.reduceMul, Nat.reduceLeDiff, Nat.reduceSub, Nat.reduceLT, Int.reduceEq, Int.reduceLT, Int.reduceLE, Int.reduceGT, Int.reduceGE, Int.reduceAdd, Int.reduceSub, Int.reduceMul, Int.reduceNeg, Int.reduceToNat, reduceCtorEq, reduceIte]
  by_cases hlt : (i : Int) < l.length
  case pos =>
    have hi' : i < l.length := by omega
    have hx := hc i hi'
    have c1 := cstU_le K (l := l) (k := i)
    have c2 := boat_ok K (l.getD i 0)
    have eb : s.bo.getD (l.getD i 0).toNat default = boat s (l.getD i 0) := rfl
    have eu : cstU s l (i + 1) = cstU s l i + (boat s (l.getD i 0)).p := rfl
    obtain ⟨x, hx'⟩ : ∃ x, x = l.getD i 0 := ⟨_, rfl⟩
    rw [← hx'] at hx c2 eb eu
    simp (disch := first | assumption | omega | (simp only [az]; done)) only [ru, eq_self, if_true, if_false, BEq.rfl, binI, AO.row?, splice, fillL, mmAll, loadV, storeV, zeros, Am.rowAt, Am.part, addOff, Nat.reduceAdd, Nat.reduceMul, Nat.reduceLeDiff, Nat.reduceSub, Nat.reduceLT, Int.reduceEq, Int.reduceLT, Int.reduceLE, Int.reduceGT, Int.reduceGE, Int.reduceAdd, Int.reduceSub, Int.reduceMul, Int.reduceNeg, Int.reduceToNat, reduceCtorEq, reduceIte, lenV_sl H.p, lenV_sl H.b, elem_sp H.p, elem_bt H.b, view_sl H.p, view_sl H.b, scalar_sl H.p, scalar_sl H.b, cells_sl H.p, cells_sl H.b, pure_sl H.p, pure_sl H.b, Int.toNat_natCast, lenV_sl V, elem_in V, view_sl V, scalar_sl V, cells_sl V, pure_sl V, Int.toNat_natCast, hlt, ← hx', hx.1, hx.2, eb]
    exact ih (l.length - (i + 1)) _ _ _ (by omega) ⟨i + 1, by omega, rfl, rfl, rfl, by rw [eu]; rfl, rfl, rfl, rfl, rfl, rfl⟩
  obtain rfl : i = l.length := by omega
  simp (disch := first | assumption | omega | (simp only [az]; done)) only [ru, eq_self, if_true, if_false, BEq.rfl, binI, AO.row?, splice, fillL, mmAll, loadV, storeV, zeros, Am.rowAt, Am.part, addOff, Nat.reduceAdd, Nat.reduceMul, Nat.reduceLeDiff, Nat.reduceSub, Nat.reduceLT, Int.reduceEq, Int.reduceLT, Int.reduceLE, Int.reduceGT, Int.reduceGE, Int.reduceAdd, Int.reduceSub, Int.reduceMul, Int.reduceNeg, Int.reduceToNat, reduceCtorEq, reduceIte, hlt]
theorem s96 (H : SeaOk s p b) (K : SeaG s) (V : IsSl 1 intL l v) (hl : l.length ≤ s.pl.length) (hc : ∀ i, i < l.length → 0 ≤ l.getD i 0 ∧ l.getD i 0 < s.bo.length) (st : Bool) : Iso E 38 [seaV s p b, v] st = some (I (lft s l)) := by
  have hs := H.sp
  refine Iso_of (es _ _ _ _) e38 ?_
  simp only [f38, seaV]
  simp (disch := first | assumption | omega | (simp only [az]; done)) only [ru, eq_self, if_true, if_false, BEq.rfl, binI, AO.row?, splice, fillL, mmAll, loadV, storeV, zeros, Am.rowAt, Am.part, addOff, Nat.reduceAdd, Nat.reduceMul, Nat.reduceLeDiff, Nat.reduceSub, Nat.reduceLT, Int.reduceEq, Int.reduceLT, Int.reduceLE, Int.reduceGT, Int.reduceGE, Int.reduceAdd, Int.reduceSub, Int.reduceMul, Int.reduceNeg, Int.reduceToNat, reduceCtorEq, reduceIte, lenV_sl H.p, lenV_sl H.b, elem_sp H.p, elem_bt H.b, view_sl H.p, view_sl H.b, scalar_sl H.p, scalar_sl H.b, cells_sl H.p, cells_sl H.b, pure_sl H.p, pure_sl H.b, Int.toNat_natCast, lenV_sl V, elem_in V, view_sl V, scalar_sl V, cells_sl V, pure_sl V, Int.toNat_natCast]
  refine G_loop_ind (fun m ts h mk => ∃ i : Nat, i ≤ l.length ∧ m = l.length - i ∧ ts.length = 23 ∧ ts.getD 2 .undef = .ptr 0 0 ∧ ts.getD 5 .undef = I (lftU s l i) ∧ ts.getD 8 .undef = v ∧ ts.getD 9 .undef = I l.length ∧ ts.getD 10 .undef = I i ∧ h = [.cells [I s.w.lo, I s.w.hi, p, b] false] ∧ mk = []) ?_ _ _ _ _
    ⟨0, Nat.zero_le _, rfl, rfl, rfl, rfl, rfl, rfl, rfl, rfl, rfl⟩
  rintro m ts h mk ih ⟨i, hi, rfl, hl', q2, q5, q8, q9, q10, rfl, rfl⟩
  rw [lit_all hl']
  simp only [lit0, litS, Nat.reduceAdd, q2, q5, q8, q9, q10]
  simp (disch := first | assumption | omega | (simp only [az]; done)) only [ru, eq_self, if_true, if_false, BEq.rfl, binI, AO.row?, splice, fillL, mmAll, loadV, storeV, zeros, Am.rowAt, Am.part, addOff, Nat.reduceAdd, Nat.reduceMul, Nat.reduceLeDiff, Nat.reduceSub, Nat.reduceLT, Int.reduceEq, Int.reduceLT, Int.reduceLE, Int.reduceGT, Int.reduceGE, Int.reduceAdd, Int.reduceSub, Int.reduceMul, Int.reduceNeg, Int.reduceToNat, reduceCtorEq, reduceIte]
  by_cases hlt : (i : Int) < l.length
  case pos =>
    have hi' : i < l.length := by omega
    have hx := hc i hi'
    have g := fun st => s112 H K (i := i) (by omega) hx.1 hx.2 st
    have eu : lftU s l (i + 1) = mmx false (lftU s l i) (brs s.pl (boat s (l.getD i 0)).c i) := rfl
    simp only [seaV] at g
    obtain ⟨x, hx'⟩ : ∃ x, x = l.getD i 0 := ⟨_, rfl⟩
    rw [← hx'] at hx eu
    simp only [← hx'] at g
    simp (disch := first | assumption | omega | (simp only [az]; done)) only [ru, eq_self, if_true, if_false, BEq.rfl, binI, AO.row?, splice, fillL, mmAll, loadV, storeV, zeros, Am.rowAt, Am.part, addOff, Nat.reduceAdd, Nat.reduceMul, Nat.reduceLeDiff, Nat.reduceSub, Nat.reduceLT, Int.reduceEq, Int.reduceLT, Int.reduceLE, Int.reduceGT, Int.reduceGE, Int.reduceAdd, Int.reduceSub, Int.reduceMul, Int.reduceNeg, Int.reduceToNat, reduceCtorEq, reduceIte, lenV_sl H.p, lenV_sl H.b, elem_sp H.p, elem_bt H.b, view_sl H.p, view_sl H.b, scalar_sl H.p, scalar_sl H.b, cells_sl H.p, cells_sl H.b, pure_sl H.p, pure_sl H.b, Int.toNat_natCast, lenV_sl V, elem_in V, view_sl V, scalar_sl V, cells_sl V, pure_sl V, Int.toNat_natCast, hlt, ← hx', g]
    exact ih (l.length - (i + 1)) _ _ _ (by omega) ⟨i + 1, by omega, rfl, rfl, rfl, by rw [eu]; rfl, rfl, rfl, rfl, rfl, rfl⟩
  obtain rfl : i = l.length := by omega
  simp (disch := first | assumption | omega | (simp only [az]; done)) only [ru, eq_self, if_true, if_false, BEq.rfl, binI, AO.row?, splice, fillL, mmAll, loadV, storeV, zeros, Am.rowAt, Am.part, addOff, Nat.reduceAdd, Nat.reduceMul, Nat.reduceLeDiff, Nat.reduceSub, Nat.reduceLT, Int.reduceEq, Int.reduceLT, Int.reduceLE, Int.reduceGT, Int.reduceGE, Int.reduceAdd, Int.reduceSub, Int.reduceMul, Int.reduceNeg, Int.reduceToNat, reduceCtorEq, reduceIte, hlt]
theorem s79 (H : SeaOk s p b) (K : SeaG s) (V : IsSl 1 intL l v) (hl : l.length ≤ s.pl.length) (hc : ∀ i, i < l.length → 0 ≤ l.getD i 0 ∧ l.getD i 0 < s.bo.length) (st : Bool) : Iso E 36 [seaV s p b, v] st = some (Bo (decide (s.w.hi ≤ lft s l))) := by
  have g := fun st => s96 H K V hl hc st
  refine Iso_of (es _ _ _ _) e36 ?_
  simp only [f36, seaV] at g ⊢
  simp (disch := first | assumption | omega | (simp only [az]; done)) only [ru, eq_self, if_true, if_false, BEq.rfl, binI, AO.row?, splice, fillL, mmAll, loadV, storeV, zeros, Am.rowAt, Am.part, addOff, Nat.reduceAdd, Nat.reduceMul, Nat.reduceLeDiff, Nat.reduceSub, Nat.reduceLT, Int.reduceEq, Int.reduceLT, Int.reduceLE, Int.reduceGT, Int.reduceGE, Int.reduceAdd, Int.reduceSub, Int.reduceMul, Int.reduceNeg, Int.reduceToNat, reduceCtorEq, reduceIte, lenV_sl H.p, lenV_sl H.b, elem_sp H.p, elem_bt H.b, view_sl H.p, view_sl H.b, scalar_sl H.p, scalar_sl H.b, cells_sl H.p, cells_sl H.b, pure_sl H.p, pure_sl H.b, Int.toNat_natCast, lenV_sl V, elem_in V, view_sl V, scalar_sl V, cells_sl V, pure_sl V, Int.toNat_natCast, g, ge_iff_le]
end
end Go.Proofs.Ytokhneffambgmaa.A

/-
Safe, Lifts and First of both sides.
-/
namespace Go.Proofs.Ytokhneffambgmaa.A
open Go Go.Am Go.Proofs.Ytokhneffambgmaa.T
set_option maxRecDepth 100000
set_option linter.unusedSimpArgs false
set_option linter.unusedVariables false

theorem rmap_succ {f : Nat → Int} {n : Nat} : (List.range (n + 1)).map f = (List.range n).map f ++ [f n] := by
  rw [List.range_succ, List.map_append]; rfl

section
variable {s : Sea} {p b : AV} {l : List Int} {v : AV}

end
end Go.Proofs.Ytokhneffambgmaa.A

/-
Safe, Lifts and First of both sides: what they answer.
-/
namespace Go.Proofs.Ytokhneffambgmaa.A
open Go Go.Am Go.Proofs.Ytokhneffambgmaa.T
set_option maxRecDepth 100000
set_option linter.unusedSimpArgs false
set_option linter.unusedVariables false

def saf (s : Sea) (l : List Int) : Int := if s.w.hi ≤ lft s l then 1 else if canB s l then 3 else 2
def safR (s : Sea) (l : List Int) : AV := if s.valid then (if crB s l then .tup [I (saf s l), I 0] else .tup [I 0, I 1]) else .tup [I 0, I 50]
def lifR (s : Sea) (l : List Int) : AV := if s.valid then (if crB s l then .tup [I (lft s l), I 0] else .tup [I 0, I 1]) else .tup [I 0, I 50]
theorem cr_at {s : Sea} {l : List Int} (h : crB s l = true) : l.length = s.pl.length ∧ ∀ i, i < l.length → 0 ≤ l.getD i 0 ∧ l.getD i 0 < s.bo.length :=
  ⟨(crB_iff.1 h).1, fun i hi => isCr_at (crB_iff.1 h) hi⟩

section
variable {s : Sea} {p b : AV} {l : List Int} {v : AV}

set_option maxHeartbeats 1000000 in
theorem s80 (H : SeaOk s p b) (K : SeaG s) (V : IsSl 1 intL l v) (hl : l.length = s.pl.length) (hc : ∀ i, i < l.length → 0 ≤ l.getD i 0 ∧ l.getD i 0 < s.bo.length) (st : Bool) : Iso E 37 [seaV s p b, v] st = some (Bo (canB s l)) := by
  have hs := H.sp
  have w0 := K.w0; have w1 := K.w1; have w2 := K.w2
  refine Iso_of (es _ _ _ _) e37 ?_
  simp only [f37, seaV]
  simp (disch := first | assumption | omega | (simp only [az]; done)) only [ru, eq_self, if_true, if_false, BEq.rfl, binI, AO.row?, splice, fillL, mmAll, loadV, storeV, zeros, Am.rowAt, Am.part, addOff, Nat.reduceAdd, Nat.reduceMul, Nat.reduceLeDiff, Nat.reduceSub, Nat.reduceLT, Int.reduceEq, Int.reduceLT, Int.reduceLE, Int.reduceGT, Int.reduceGE, Int.reduceAdd, Int.reduceSub, Int.reduceMul, Int.reduceNeg, Int.reduceToNat, reduceCtorEq, reduceIte, lenV_sl V, elem_in V, view_sl V, scalar_sl V, cells_sl V, pure_sl V, Int.toNat_natCast]
  have hcap : ∀ i, i < l.length → 0 ≤ capP s l i ∧ capP s l i ≤ 12 := fun i hi => by
    have a := K.sp.at (p := i) (by omega)
    have c2 := boat_ok K (l.getD i 0)
    have h1 := (capP_iff K (l := l) (i := i) (x := capP s l i)).1 (Int.le_refl _)
    exact ⟨(capP_iff K).2 ⟨by omega, by omega⟩, by omega⟩
  have hsum : ∀ i, i ≤ l.length → 0 ≤ sm ((List.range i).map (capP s l)) ∧ sm ((List.range i).map (capP s l)) ≤ 12 * i := by
    intro i
    induction i with
    | zero => intro _; simp [sm]
    | succ i ih =>
      intro hi
      have := ih (by omega)
      have := hcap i (by omega)
      rw [rmap_succ, sm_app]
      simp only [sm]; omega
  refine G_loop_ind (fun m ts h mk => ∃ i : Nat, i ≤ l.length ∧ m = l.length - i ∧ (List.range i).all (fun i => decide ((s.pl.getD i default).lo ≤ capP s l i)) = true ∧ ts.length = 57 ∧ ts.getD 2 .undef = .ptr 0 0 ∧ ts.getD 5 .undef = I (sm ((List.range i).map (capP s l))) ∧ ts.getD 10 .undef = v ∧ ts.getD 11 .undef = I l.length ∧ ts.getD 12 .undef = I i ∧ h = [.cells [I s.w.lo, I s.w.hi, p, b] false] ∧ mk = []) ?_ _ _ _ _
    ⟨0, Nat.zero_le _, rfl, rfl, rfl, rfl, rfl, rfl, rfl, rfl, rfl, rfl⟩
  rintro m ts h mk ih ⟨i, hi, rfl, hall, hl', q2, q5, q10, q11, q12, rfl, rfl⟩
  rw [lit_all hl']
  simp only [lit0, litS, Nat.reduceAdd, q2, q5, q10, q11, q12]
  simp (disch := first | assumption | omega | (simp only [az]; done)) only [ru, eq_self, if_true, if_false, BEq.rfl, binI, AO.row?, splice, fillL, mmAll, loadV, storeV, zeros, Am.rowAt, Am.part, addOff, Nat.reduceAdd, Nat.reduceMul, Nat.reduceLeDiff, Nat.reduceSub, Nat.reduceLT, Int.reduceEq, Int.reduceLT, Int.reduceLE, Int.reduceGT, Int.reduceGE, Int.reduceAdd, Int.reduceSub, Int.reduceMul, Int.reduceNeg, Int.reduceToNat, reduceCtorEq, reduceIte]
  by_cases hlt : (i : Int) < l.length
  case pos =>
    have hi' : i < l.length := by omega
    have hlt2 : (i : Int) < s.pl.length := by omega
    have hx := hc i hi'
    have c2 := boat_ok K (l.getD i 0)
    have eb : s.bo.getD (l.getD i 0).toNat default = boat s (l.getD i 0) := rfl
    have b1 := hsum i hi
    have b2 := hcap i hi'
    have esm : sm ((List.range (i + 1)).map (capP s l)) = sm ((List.range i).map (capP s l)) + capP s l i := by rw [rmap_succ, sm_app]; simp [sm]
    have a := K.sp.at (p := i) (by omega)
    have hx0 := hx.1; have hx1 := hx.2
    by_cases hw : s.w.lo > 0
    · have hd : (12 * (boat s (l.getD i 0)).c).tdiv s.w.lo = 12 * (boat s (l.getD i 0)).c / s.w.lo := Int.tdiv_eq_ediv_of_nonneg (by omega)
      have hw' : ¬ s.w.lo = 0 := by omega
      have d0 : 0 ≤ 12 * (boat s (l.getD i 0)).c / s.w.lo := Int.ediv_nonneg (by omega) (by omega)
      have d1 : 12 * (boat s (l.getD i 0)).c / s.w.lo ≤ 12 * (boat s (l.getD i 0)).c := Int.ediv_le_self _ (by omega)
      have ec : mmx false (s.pl.getD i default).hi (12 * (boat s (l.getD i 0)).c / s.w.lo) = capP s l i := by rw [capP, if_pos hw]; rfl
      by_cases hcc : capP s l i < (s.pl.getD i default).lo
      · have ev : canB s l = false := by
          have := range_not (p := fun i => decide ((s.pl.getD i default).lo ≤ capP s l i)) (N := l.length) hi' (decide_eq_false (by omega))
          simp only [canB, this, Bool.false_and]
        obtain ⟨x, hx'⟩ : ∃ x, x = l.getD i 0 := ⟨_, rfl⟩
        simp only [← hx'] at hx0 hx1 eb c2 hd d0 d1 ec
        simp (disch := first | assumption | omega | (simp only [az]; done)) only [ru, eq_self, if_true, if_false, BEq.rfl, binI, AO.row?, splice, fillL, mmAll, loadV, storeV, zeros, Am.rowAt, Am.part, addOff, Nat.reduceAdd, Nat.reduceMul, Nat.reduceLeDiff, Nat.reduceSub, Nat.reduceLT, Int.reduceEq, Int.reduceLT, Int.reduceLE, Int.reduceGT, Int.reduceGE, Int.reduceAdd, Int.reduceSub, Int.reduceMul, Int.reduceNeg, Int.reduceToNat, reduceCtorEq, reduceIte, lenV_sl H.p, lenV_sl H.b, elem_sp H.p, elem_bt H.b, view_sl H.p, view_sl H.b, scalar_sl H.p, scalar_sl H.b, cells_sl H.p, cells_sl H.b, pure_sl H.p, pure_sl H.b, Int.toNat_natCast, lenV_sl V, elem_in V, view_sl V, scalar_sl V, cells_sl V, pure_sl V, Int.toNat_natCast, hlt, hlt2, ← hx', eb, hw, hw', hd, ec, hcc, ev]
      · have hr := range_all_succ hall (decide_eq_true (p := (s.pl.getD i default).lo ≤ capP s l i) (by omega))
        obtain ⟨x, hx'⟩ : ∃ x, x = l.getD i 0 := ⟨_, rfl⟩
        simp only [← hx'] at hx0 hx1 eb c2 hd d0 d1 ec
        simp (disch := first | assumption | omega | (simp only [az]; done)) only [ru, eq_self, if_true, if_false, BEq.rfl, binI, AO.row?, splice, fillL, mmAll, loadV, storeV, zeros, Am.rowAt, Am.part, addOff, Nat.reduceAdd, Nat.reduceMul, Nat.reduceLeDiff, Nat.reduceSub, Nat.reduceLT, Int.reduceEq, Int.reduceLT, Int.reduceLE, Int.reduceGT, Int.reduceGE, Int.reduceAdd, Int.reduceSub, Int.reduceMul, Int.reduceNeg, Int.reduceToNat, reduceCtorEq, reduceIte, lenV_sl H.p, lenV_sl H.b, elem_sp H.p, elem_bt H.b, view_sl H.p, view_sl H.b, scalar_sl H.p, scalar_sl H.b, cells_sl H.p, cells_sl H.b, pure_sl H.p, pure_sl H.b, Int.toNat_natCast, lenV_sl V, elem_in V, view_sl V, scalar_sl V, cells_sl V, pure_sl V, Int.toNat_natCast, hlt, hlt2, ← hx', eb, hw, hw', hd, ec, hcc]
        exact ih (l.length - (i + 1)) _ _ _ (by omega) ⟨i + 1, by omega, rfl, hr, rfl, rfl, by rw [esm]; rfl, rfl, rfl, rfl, rfl, rfl⟩
    · have ec : (s.pl.getD i default).hi = capP s l i := by rw [capP, if_neg hw]
      by_cases hcc : capP s l i < (s.pl.getD i default).lo
      · omega
      · have hr := range_all_succ hall (decide_eq_true (p := (s.pl.getD i default).lo ≤ capP s l i) (by omega))
        simp (disch := first | assumption | omega | (simp only [az]; done)) only [ru, eq_self, if_true, if_false, BEq.rfl, binI, AO.row?, splice, fillL, mmAll, loadV, storeV, zeros, Am.rowAt, Am.part, addOff, Nat.reduceAdd, Nat.reduceMul, Nat.reduceLeDiff, Nat.reduceSub, Nat.reduceLT, Int.reduceEq, Int.reduceLT, Int.reduceLE, Int.reduceGT, Int.reduceGE, Int.reduceAdd, Int.reduceSub, Int.reduceMul, Int.reduceNeg, Int.reduceToNat, reduceCtorEq, reduceIte, lenV_sl H.p, lenV_sl H.b, elem_sp H.p, elem_bt H.b, view_sl H.p, view_sl H.b, scalar_sl H.p, scalar_sl H.b, cells_sl H.p, cells_sl H.b, pure_sl H.p, pure_sl H.b, Int.toNat_natCast, lenV_sl V, elem_in V, view_sl V, scalar_sl V, cells_sl V, pure_sl V, Int.toNat_natCast, hlt, hlt2, hw, ec, hcc]
        exact ih (l.length - (i + 1)) _ _ _ (by omega) ⟨i + 1, by omega, rfl, hr, rfl, rfl, by rw [esm]; rfl, rfl, rfl, rfl, rfl, rfl⟩
  obtain rfl : i = l.length := by omega
  have ev : canB s l = decide (12 ≤ sm ((List.range l.length).map (capP s l))) := by simp only [canB, hall, Bool.true_and]
  rw [ev]
  simp (disch := first | assumption | omega | (simp only [az]; done)) only [ru, eq_self, if_true, if_false, BEq.rfl, binI, AO.row?, splice, fillL, mmAll, loadV, storeV, zeros, Am.rowAt, Am.part, addOff, Nat.reduceAdd, Nat.reduceMul, Nat.reduceLeDiff, Nat.reduceSub, Nat.reduceLT, Int.reduceEq, Int.reduceLT, Int.reduceLE, Int.reduceGT, Int.reduceGE, Int.reduceAdd, Int.reduceSub, Int.reduceMul, Int.reduceNeg, Int.reduceToNat, reduceCtorEq, reduceIte, hlt, ge_iff_le]

theorem s27 (H : SeaOk s p b) (V : IsSl 1 intL l v) (hl : l.length ≤ 41) (st : Bool) : Iso E 15 [seaV s p b, v] st = some (safR s l) := by
  have g1 := fun st => s78 H V hl st
  refine Iso_of (es _ _ _ _) e15 ?_
  simp only [f15, seaV, safR, saf] at g1 ⊢
  cases hv : s.valid
  · simp (disch := first | assumption | omega | (simp only [az]; done)) only [ru, eq_self, if_true, if_false, BEq.rfl, binI, AO.row?, splice, fillL, mmAll, loadV, storeV, zeros, Am.rowAt, Am.part, addOff, Nat.reduceAdd, Nat.reduceMul, Nat.reduceLeDiff, Nat.reduceSub, Nat.reduceLT, Int.reduceEq, Int.reduceLT, Int.reduceLE, Int.reduceGT, Int.reduceGE, Int.reduceAdd, Int.reduceSub, Int.reduceMul, Int.reduceNeg, Int.reduceToNat, reduceCtorEq, reduceIte, lenV_sl H.p, lenV_sl H.b, elem_sp H.p, elem_bt H.b, view_sl H.p, view_sl H.b, scalar_sl H.p, scalar_sl H.b, cells_sl H.p, cells_sl H.b, pure_sl H.p, pure_sl H.b, Int.toNat_natCast, lenV_sl V, elem_in V, view_sl V, scalar_sl V, cells_sl V, pure_sl V, Int.toNat_natCast, g1, hv, aE, Bool.false_eq_true]
  cases hc : crB s l
  · simp (disch := first | assumption | omega | (simp only [az]; done)) only [ru, eq_self, if_true, if_false, BEq.rfl, binI, AO.row?, splice, fillL, mmAll, loadV, storeV, zeros, Am.rowAt, Am.part, addOff, Nat.reduceAdd, Nat.reduceMul, Nat.reduceLeDiff, Nat.reduceSub, Nat.reduceLT, Int.reduceEq, Int.reduceLT, Int.reduceLE, Int.reduceGT, Int.reduceGE, Int.reduceAdd, Int.reduceSub, Int.reduceMul, Int.reduceNeg, Int.reduceToNat, reduceCtorEq, reduceIte, lenV_sl H.p, lenV_sl H.b, elem_sp H.p, elem_bt H.b, view_sl H.p, view_sl H.b, scalar_sl H.p, scalar_sl H.b, cells_sl H.p, cells_sl H.b, pure_sl H.p, pure_sl H.b, Int.toNat_natCast, lenV_sl V, elem_in V, view_sl V, scalar_sl V, cells_sl V, pure_sl V, Int.toNat_natCast, g1, hv, hc, aE, Bool.false_eq_true]
  obtain ⟨hlen, hcr⟩ := cr_at hc
  have K := (valid_good hv).1
  have g2 := fun st => s79 H K V (by omega) hcr st
  have g3 := fun st => s80 H K V hlen hcr st
  simp only [seaV] at g2 g3
  by_cases hh : s.w.hi ≤ lft s l
  · simp (disch := first | assumption | omega | (simp only [az]; done)) only [ru, eq_self, if_true, if_false, BEq.rfl, binI, AO.row?, splice, fillL, mmAll, loadV, storeV, zeros, Am.rowAt, Am.part, addOff, Nat.reduceAdd, Nat.reduceMul, Nat.reduceLeDiff, Nat.reduceSub, Nat.reduceLT, Int.reduceEq, Int.reduceLT, Int.reduceLE, Int.reduceGT, Int.reduceGE, Int.reduceAdd, Int.reduceSub, Int.reduceMul, Int.reduceNeg, Int.reduceToNat, reduceCtorEq, reduceIte, lenV_sl H.p, lenV_sl H.b, elem_sp H.p, elem_bt H.b, view_sl H.p, view_sl H.b, scalar_sl H.p, scalar_sl H.b, cells_sl H.p, cells_sl H.b, pure_sl H.p, pure_sl H.b, Int.toNat_natCast, lenV_sl V, elem_in V, view_sl V, scalar_sl V, cells_sl V, pure_sl V, Int.toNat_natCast, g1, g2, hv, hc, aE, hh, decide_true]
  cases hcb : canB s l
  · simp (disch := first | assumption | omega | (simp only [az]; done)) only [ru, eq_self, if_true, if_false, BEq.rfl, binI, AO.row?, splice, fillL, mmAll, loadV, storeV, zeros, Am.rowAt, Am.part, addOff, Nat.reduceAdd, Nat.reduceMul, Nat.reduceLeDiff, Nat.reduceSub, Nat.reduceLT, Int.reduceEq, Int.reduceLT, Int.reduceLE, Int.reduceGT, Int.reduceGE, Int.reduceAdd, Int.reduceSub, Int.reduceMul, Int.reduceNeg, Int.reduceToNat, reduceCtorEq, reduceIte, lenV_sl H.p, lenV_sl H.b, elem_sp H.p, elem_bt H.b, view_sl H.p, view_sl H.b, scalar_sl H.p, scalar_sl H.b, cells_sl H.p, cells_sl H.b, pure_sl H.p, pure_sl H.b, Int.toNat_natCast, lenV_sl V, elem_in V, view_sl V, scalar_sl V, cells_sl V, pure_sl V, Int.toNat_natCast, g1, g2, g3, hv, hc, aE, hh, hcb, decide_false, Bool.not_false, Bool.false_eq_true]
  · simp (disch := first | assumption | omega | (simp only [az]; done)) only [ru, eq_self, if_true, if_false, BEq.rfl, binI, AO.row?, splice, fillL, mmAll, loadV, storeV, zeros, Am.rowAt, Am.part, addOff, Nat.reduceAdd, Nat.reduceMul, Nat.reduceLeDiff, Nat.reduceSub, Nat.reduceLT, Int.reduceEq, Int.reduceLT, Int.reduceLE, Int.reduceGT, Int.reduceGE, Int.reduceAdd, Int.reduceSub, Int.reduceMul, Int.reduceNeg, Int.reduceToNat, reduceCtorEq, reduceIte, lenV_sl H.p, lenV_sl H.b, elem_sp H.p, elem_bt H.b, view_sl H.p, view_sl H.b, scalar_sl H.p, scalar_sl H.b, cells_sl H.p, cells_sl H.b, pure_sl H.p, pure_sl H.b, Int.toNat_natCast, lenV_sl V, elem_in V, view_sl V, scalar_sl V, cells_sl V, pure_sl V, Int.toNat_natCast, g1, g2, g3, hv, hc, aE, hh, hcb, decide_false, Bool.not_true]
theorem s61 (H : SeaOk s p b) (V : IsSl 1 intL l v) (hl : l.length ≤ 41) (st : Bool) : Iso E 16 [seaV s p b, v] st = some (lifR s l) := by
  have g1 := fun st => s78 H V hl st
  refine Iso_of (es _ _ _ _) e16 ?_
  simp only [f16, seaV, lifR] at g1 ⊢
  cases hv : s.valid
  · simp (disch := first | assumption | omega | (simp only [az]; done)) only [ru, eq_self, if_true, if_false, BEq.rfl, binI, AO.row?, splice, fillL, mmAll, loadV, storeV, zeros, Am.rowAt, Am.part, addOff, Nat.reduceAdd, Nat.reduceMul, Nat.reduceLeDiff, Nat.reduceSub, Nat.reduceLT, Int.reduceEq, Int.reduceLT, Int.reduceLE, Int.reduceGT, Int.reduceGE, Int.reduceAdd, Int.reduceSub, Int.reduceMul, Int.reduceNeg, Int.reduceToNat, reduceCtorEq, reduceIte, lenV_sl H.p, lenV_sl H.b, elem_sp H.p, elem_bt H.b, view_sl H.p, view_sl H.b, scalar_sl H.p, scalar_sl H.b, cells_sl H.p, cells_sl H.b, pure_sl H.p, pure_sl H.b, Int.toNat_natCast, lenV_sl V, elem_in V, view_sl V, scalar_sl V, cells_sl V, pure_sl V, Int.toNat_natCast, g1, hv, aE, Bool.false_eq_true]
  cases hc : crB s l
  · simp (disch := first | assumption | omega | (simp only [az]; done)) only [ru, eq_self, if_true, if_false, BEq.rfl, binI, AO.row?, splice, fillL, mmAll, loadV, storeV, zeros, Am.rowAt, Am.part, addOff, Nat.reduceAdd, Nat.reduceMul, Nat.reduceLeDiff, Nat.reduceSub, Nat.reduceLT, Int.reduceEq, Int.reduceLT, Int.reduceLE, Int.reduceGT, Int.reduceGE, Int.reduceAdd, Int.reduceSub, Int.reduceMul, Int.reduceNeg, Int.reduceToNat, reduceCtorEq, reduceIte, lenV_sl H.p, lenV_sl H.b, elem_sp H.p, elem_bt H.b, view_sl H.p, view_sl H.b, scalar_sl H.p, scalar_sl H.b, cells_sl H.p, cells_sl H.b, pure_sl H.p, pure_sl H.b, Int.toNat_natCast, lenV_sl V, elem_in V, view_sl V, scalar_sl V, cells_sl V, pure_sl V, Int.toNat_natCast, g1, hv, hc, aE, Bool.false_eq_true]
  obtain ⟨hlen, hcr⟩ := cr_at hc
  have g2 := fun st => s96 H (valid_good hv).1 V (by omega) hcr st
  simp only [seaV] at g2
  simp (disch := first | assumption | omega | (simp only [az]; done)) only [ru, eq_self, if_true, if_false, BEq.rfl, binI, AO.row?, splice, fillL, mmAll, loadV, storeV, zeros, Am.rowAt, Am.part, addOff, Nat.reduceAdd, Nat.reduceMul, Nat.reduceLeDiff, Nat.reduceSub, Nat.reduceLT, Int.reduceEq, Int.reduceLT, Int.reduceLE, Int.reduceGT, Int.reduceGE, Int.reduceAdd, Int.reduceSub, Int.reduceMul, Int.reduceNeg, Int.reduceToNat, reduceCtorEq, reduceIte, lenV_sl H.p, lenV_sl H.b, elem_sp H.p, elem_bt H.b, view_sl H.p, view_sl H.b, scalar_sl H.p, scalar_sl H.b, cells_sl H.p, cells_sl H.b, pure_sl H.p, pure_sl H.b, Int.toNat_natCast, lenV_sl V, elem_in V, view_sl V, scalar_sl V, cells_sl V, pure_sl V, Int.toNat_natCast, g1, g2, hv, hc, aE]
end
end Go.Proofs.Ytokhneffambgmaa.A

/-
All crews: as the specification lists them, and as the program yields them.
-/
namespace Go.Proofs.Ytokhneffambgmaa.A
open Go Go.Am Go.Proofs.Ytokhneffambgmaa.T
set_option maxRecDepth 100000
set_option linter.unusedSimpArgs false
set_option linter.unusedVariables false

/-- the crews with the first k boats at a place -/
def crP (nb d : Nat) (F : List Int) (k : Nat) : List (List Int) := (List.range k).flatMap fun (b : Nat) => if (b : Int) ∈ F then [] else crw nb d (F ++ [(b : Int)])
theorem crP_succ {nb d : Nat} {F : List Int} {k : Nat} : crP nb d F (k + 1) = crP nb d F k ++ (if (k : Int) ∈ F then [] else crw nb d (F ++ [(k : Int)])) := by
  unfold crP; rw [List.range_succ, List.flatMap_append]; simp
/-! the program's -/
/-- what lies behind a place is as it was -/
structure Fk (b : Nat) (h h' : List AO) : Prop where
  l : h.length ≤ h'.length
  k : ∀ j, b ≤ j → j < h.length → h'[j]? = h[j]?
theorem Fk.trans {n : Nat} {a b c : List AO} (h : Fk n a b) (h' : Fk n b c) : Fk n a c := ⟨Nat.le_trans h.l h'.l, fun j hn hj => (h'.k j hn (Nat.lt_of_lt_of_le hj h.l)).trans (h.k j hn hj)⟩
theorem Fk.of {b : Nat} {h h' : List AO} (F : Fr h h') : Fk b h h' := ⟨F.l, fun j _ hj => F.k j hj⟩
theorem Fk.at {b : Nat} {h h' : List AO} (F : Fk b h h') {j : Nat} (hb : b ≤ j) {x : AO} (hx : h[j]? = some x) : h'[j]? = some x := by rw [F.k j hb (List.getElem?_eq_some_iff.1 hx).1]; exact hx
def RdB (b : Nat) (h : List AO) (v : AV) (l : List Int) : Prop := (l = [] ∧ v = .nils) ∨ (l ≠ [] ∧ ∃ o sh, b ≤ o ∧ v = .ms 1 o 0 l.length ∧ h[o]? = some (.cells (l.flatMap fun n => [I n]) sh))
theorem RdB.s {b : Nat} {h : List AO} {v : AV} {l : List Int} (H : RdB b h v l) : RdS h v l := by
  rcases H with h1 | ⟨hne, o, sh, _, e, hc⟩
  · exact .inl h1
  · exact .inr ⟨hne, o, sh, e, hc⟩
theorem RdB.fk {b : Nat} {h h' : List AO} {v : AV} {l : List Int} (H : RdB b h v l) (F : Fk b h h') : RdB b h' v l := by
  rcases H with h1 | ⟨hne, o, sh, hb, e, hc⟩
  · exact .inl h1
  · exact .inr ⟨hne, o, sh, hb, e, F.at hb hc⟩
theorem flat_head {F : List Int} {i : Nat} (hi : i < F.length) : ((F.flatMap fun n => [I n]).drop i).head? = some (I (F.getD i 0)) := by
  induction F generalizing i with
  | nil => simp at hi
  | cons a F ih =>
    cases i with
    | zero => rfl
    | succ i => simpa using ih (i := i) (by simpa using hi)
theorem RdB.elem {b : Nat} {h : List AO} {v : AV} {l : List Int} (H : RdB b h v l) {i : Nat} (hi : i < l.length) : ∃ o, v = .ms 1 o 0 l.length ∧ ∃ c sh, h[o]? = some (.cells c sh) ∧ (c.drop (i * 1)).head? = some (I (l.getD i 0)) := by
  rcases H with ⟨rfl, _⟩ | ⟨hne, o, sh, hb, rfl, hc⟩
  · simp at hi
  · exact ⟨o, rfl, _, sh, hc, by rw [Nat.mul_one]; exact flat_head hi⟩
/-- one boat more, in new memory -/
theorem RdB.more {b : Nat} {h : List AO} {v : AV} {l : List Int} (H : RdB b h v l) (hl : l.length ≤ 1000) {lim : Nat} (y : Int) : ∃ m, slice3V 1 v (I l.length) (I l.length) = some m ∧
    appG true lim h.length 1 8 (h ++ [.tomb]) m (.cs 1 1 [I y]) = some (.ms 1 h.length 0 (l.length + 1), h ++ [.cells ((l ++ [y]).flatMap fun n => [I n]) false]) := by
  rcases H with ⟨rfl, rfl⟩ | ⟨hne, o, sh, hb, rfl, hc⟩
  · refine ⟨.nils, rfl, ?_⟩
    rw [appG_nil (n := 1) (xs := [I y]) (by omega) rfl rfl rfl rfl (by omega) (by omega), setT0]
    rfl
  · refine ⟨.mc 1 o 0 l.length, slice3_ms, ?_⟩
    have ol := (List.getElem?_eq_some_iff.1 hc).1
    have hr : Am.rowAt (h ++ [AO.tomb]) o = some (l.flatMap fun n => [I n]) := by
      simp only [Am.rowAt, at_ap ol, hc, Option.bind_some, AO.row?]
    have hlen : (l.flatMap fun n => [I n]).length = l.length := flat1 l
    have c1 : (l.length + 1) * 8 ≤ 140737488355328 := by omega
    have e1 : lenOf (.mc 1 o 0 l.length) = some l.length := rfl
    have e2 : lenOf (.cs 1 1 [I y]) = some 1 := rfl
    have e3 : Am.rowOf (h ++ [AO.tomb]) (.cs 1 1 [I y]) = some [I y] := rfl
    have e4 : l.length * 1 ≤ (l.flatMap fun n => [I n]).length := by omega
    have e5 : (l.flatMap fun n => [I n]).take (l.length * 1) = l.flatMap fun n => [I n] := List.take_of_length_le (by omega)
    simp only [appG, exOp, e1, e2, e3, List.length_singleton, Nat.one_mul, Nat.one_ne_zero, if_true, if_false, c1, Nat.le_refl, true_and, List.all_cons, List.all_nil, AV.scalar, Bool.and_true, hr, e4, e5, and_self, newObj', Option.getD_some, setT0, set0, List.flatMap_append]
    rfl
end Go.Proofs.Ytokhneffambgmaa.A

/-
The program's crews: a range over a function that yields each crew in memory of its own.
-/
namespace Go.Proofs.Ytokhneffambgmaa.A
open Go Go.Am Go.Proofs.Ytokhneffambgmaa.T
set_option maxRecDepth 100000
set_option linter.unusedSimpArgs false
set_option linter.unusedVariables false

set_option maxHeartbeats 2000000 in
theorem r129 {s : Sea} {p b : AV} (H : SeaOk s p b) (hk4 : s.pl.length ≤ 4) (hnb : s.bo.length ≤ 6) {o lim : Nat} (hlim : lim ≤ o) {P : List (List Int) → List AO → Prop}
    (hP : ∀ D h h', P D h → Fr h h' → P D h')
    (hstep : ∀ D F fv h, o < h.length → P D h → RdB (o + 1) h fv F → isCr s F → ∃ h', R E (.rnd o) [fv] h lim = some (Bo true, h') ∧ P (D ++ [F]) h' ∧ Fk (o + 1) h h') :
    ∀ (d : Nat) (F : List Int) (fv : AV) (D : List (List Int)) (h : List AO), F.length + d = s.pl.length → okC s.bo.length F → RdB (o + 1) h fv F → o < h.length → P D h →
    ∃ h', R E (.fn 64) [seaV s p b, fv, .yld o] h lim = some (Bo true, h') ∧ P (D ++ crw s.bo.length d F) h' ∧ Fk (o + 1) h h' := by
  have sp := H.sp
  intro d
  induction d with
  | zero =>
    intro F fv D h hd hF rd ho hp
    have hl : (F.length : Int) = s.pl.length := by omega
    obtain ⟨f1, f2, f3⟩ := rd.s.len
    have fr := Fr.app h [(.cells [I s.w.lo, I s.w.hi, p, b] false : AO)]
    obtain ⟨h', hr, hp', fk⟩ := hstep D F fv (h ++ [.cells [I s.w.lo, I s.w.hi, p, b] false]) (by simp; omega) (hP _ _ _ hp fr) (rd.fk (Fk.of fr)) ⟨by omega, hF⟩
    refine (fun x => ?_ : (∃ r h', R E (.fn 64) [seaV s p b, fv, .yld o] h lim = some (r, h') ∧ (r = Bo true ∧ P (D ++ crw s.bo.length 0 F) h' ∧ Fk (o + 1) h h')) → _) (R_of _ (es _ _ _ _) e64 ?_)
    · obtain ⟨r, h', hr, rfl, hh⟩ := x; exact ⟨h', hr, hh⟩
    simp only [f64, seaV]
    simp (disch := first | assumption | omega | (simp only [az]; done)) only [ru, eq_self, if_true, if_false, BEq.rfl, binI, AO.row?, splice, fillL, mmAll, loadV, storeV, zeros, Am.rowAt, Am.part, addOff, Nat.reduceAdd, Nat.reduceMul, Nat.reduceLeDiff, Nat.reduceSub, Nat.reduceLT, Int.reduceEq, Int.reduceLT, Int.reduceLE, Int.reduceGT, Int.reduceGE, Int.reduceAdd, Int.reduceSub, Int.reduceMul, Int.reduceNeg, Int.reduceToNat, reduceCtorEq, reduceIte, lenV_sl H.p, lenV_sl H.b, elem_sp H.p, elem_bt H.b, view_sl H.p, view_sl H.b, scalar_sl H.p, scalar_sl H.b, cells_sl H.p, cells_sl H.b, pure_sl H.p, pure_sl H.b, Int.toNat_natCast, f1, f2, f3, hl, decide_true, exOp_callv0, hr]
    exact ⟨hp', (Fk.of fr).trans fk⟩
  | succ d ih =>
    intro F fv D h hd hF rd ho hp
    have hl : ¬ (F.length : Int) = s.pl.length := by omega
    obtain ⟨f1, f2, f3⟩ := rd.s.len
    have fr := Fr.app h [(.cells [I s.w.lo, I s.w.hi, p, b] false : AO)]
    refine (fun x => ?_ : (∃ r h', R E (.fn 64) [seaV s p b, fv, .yld o] h lim = some (r, h') ∧ (r = Bo true ∧ P (D ++ crw s.bo.length (d + 1) F) h' ∧ Fk (o + 1) h h')) → _) (R_of _ (es _ _ _ _) e64 ?_)
    · obtain ⟨r, h', hr, rfl, hh⟩ := x; exact ⟨h', hr, hh⟩
    simp only [f64, seaV]
    simp (disch := first | assumption | omega | (simp only [az]; done)) only [ru, eq_self, if_true, if_false, BEq.rfl, binI, AO.row?, splice, fillL, mmAll, loadV, storeV, zeros, Am.rowAt, Am.part, addOff, Nat.reduceAdd, Nat.reduceMul, Nat.reduceLeDiff, Nat.reduceSub, Nat.reduceLT, Int.reduceEq, Int.reduceLT, Int.reduceLE, Int.reduceGT, Int.reduceGE, Int.reduceAdd, Int.reduceSub, Int.reduceMul, Int.reduceNeg, Int.reduceToNat, reduceCtorEq, reduceIte, lenV_sl H.p, lenV_sl H.b, elem_sp H.p, elem_bt H.b, view_sl H.p, view_sl H.b, scalar_sl H.p, scalar_sl H.b, cells_sl H.p, cells_sl H.b, pure_sl H.p, pure_sl H.b, Int.toNat_natCast, f1, f2, f3, hl, decide_false]
    refine G_loop_ind (fun m ts hk mk => ∃ (j : Nat), j ≤ s.bo.length ∧ m = s.bo.length - j ∧ Fk (o + 1) h hk ∧ hk[h.length]? = some (.cells [I s.w.lo, I s.w.hi, p, b] false) ∧ P (D ++ crP s.bo.length d F j) hk ∧
      ts.length = 51 ∧ ts.getD 1 .undef = fv ∧ ts.getD 2 .undef = .yld o ∧ ts.getD 3 .undef = .ptr h.length 0 ∧ ts.getD 23 .undef = I s.bo.length ∧ ts.getD 24 .undef = I j ∧ mk = []) ?_ _ _ _ _
      ⟨0, Nat.zero_le _, rfl, Fk.of fr, by simp, by simpa [crP] using hP _ _ _ hp fr, rfl, rfl, rfl, rfl, rfl, rfl, rfl⟩
    rintro m ts hk mk ihk ⟨j, hj, rfl, fk, c3, hpk, hl', q1, q2, q3, q23, q24, rfl⟩
    rw [lit_all hl']
    simp only [lit0, litS, Nat.reduceAdd, q1, q2, q3, q23, q24]
    simp (disch := first | assumption | omega | (simp only [az]; done)) only [ru, eq_self, if_true, if_false, BEq.rfl, binI, AO.row?, splice, fillL, mmAll, loadV, storeV, zeros, Am.rowAt, Am.part, addOff, Nat.reduceAdd, Nat.reduceMul, Nat.reduceLeDiff, Nat.reduceSub, Nat.reduceLT, Int.reduceEq, Int.reduceLT, Int.reduceLE, Int.reduceGT, Int.reduceGE, Int.reduceAdd, Int.reduceSub, Int.reduceMul, Int.reduceNeg, Int.reduceToNat, reduceCtorEq, reduceIte, f1]
    by_cases hlt : (j : Int) < s.bo.length
    case neg =>
      obtain rfl : j = s.bo.length := by omega
      simp (disch := first | assumption | omega | (simp only [az]; done)) only [ru, eq_self, if_true, if_false, BEq.rfl, binI, AO.row?, splice, fillL, mmAll, loadV, storeV, zeros, Am.rowAt, Am.part, addOff, Nat.reduceAdd, Nat.reduceMul, Nat.reduceLeDiff, Nat.reduceSub, Nat.reduceLT, Int.reduceEq, Int.reduceLT, Int.reduceLE, Int.reduceGT, Int.reduceGE, Int.reduceAdd, Int.reduceSub, Int.reduceMul, Int.reduceNeg, Int.reduceToNat, reduceCtorEq, reduceIte, hlt]
      exact ⟨hpk, fk⟩
    simp (disch := first | assumption | omega | (simp only [az]; done)) only [ru, eq_self, if_true, if_false, BEq.rfl, binI, AO.row?, splice, fillL, mmAll, loadV, storeV, zeros, Am.rowAt, Am.part, addOff, Nat.reduceAdd, Nat.reduceMul, Nat.reduceLeDiff, Nat.reduceSub, Nat.reduceLT, Int.reduceEq, Int.reduceLT, Int.reduceLE, Int.reduceGT, Int.reduceGE, Int.reduceAdd, Int.reduceSub, Int.reduceMul, Int.reduceNeg, Int.reduceToNat, reduceCtorEq, reduceIte, hlt, f1]
    clear hl' q1 q2 q3 q23 q24
    have rdk := rd.fk fk
    have ok : o < hk.length := by have := fk.l; omega
    refine G_loop_ind (fun m ts hk' mk => ∃ (i : Nat), i ≤ F.length ∧ m = F.length - i ∧ (j : Int) ∉ F.take i ∧ hk' = hk ∧ ts.length = 51 ∧ ts.getD 1 .undef = fv ∧ ts.getD 2 .undef = .yld o ∧ ts.getD 3 .undef = .ptr h.length 0 ∧ ts.getD 7 .undef = I j ∧ ts.getD 23 .undef = I s.bo.length ∧ ts.getD 24 .undef = I j ∧ ts.getD 27 .undef = fv ∧ ts.getD 28 .undef = I F.length ∧ ts.getD 29 .undef = I i ∧ mk = []) ?_ _ _ _ _
      ⟨0, Nat.zero_le _, rfl, by simp, rfl, rfl, rfl, rfl, rfl, rfl, rfl, rfl, rfl, rfl, rfl, rfl⟩
    rintro m ts hk' mk ihi ⟨i, hi, rfl, hnot, rfl, hl', q1, q2, q3, q7, q23, q24, q27, q28, q29, rfl⟩
    rw [lit_all hl']
    simp only [lit0, litS, Nat.reduceAdd, q1, q2, q3, q7, q23, q24, q27, q28, q29]
    simp (disch := first | assumption | omega | (simp only [az]; done)) only [ru, eq_self, if_true, if_false, BEq.rfl, binI, AO.row?, splice, fillL, mmAll, loadV, storeV, zeros, Am.rowAt, Am.part, addOff, Nat.reduceAdd, Nat.reduceMul, Nat.reduceLeDiff, Nat.reduceSub, Nat.reduceLT, Int.reduceEq, Int.reduceLT, Int.reduceLE, Int.reduceGT, Int.reduceGE, Int.reduceAdd, Int.reduceSub, Int.reduceMul, Int.reduceNeg, Int.reduceToNat, reduceCtorEq, reduceIte]
    by_cases hlt2 : (i : Int) < F.length
    case pos =>
      have hi' : i < F.length := by omega
      obtain ⟨fo, efv, c, sh, hc, hh⟩ := rdk.elem hi'
      have hx : F.getD i 0 ∈ F := getD_memI hi'
      have htk : F.take (i + 1) = F.take i ++ [F.getD i 0] := by
        rw [List.take_succ_eq_append_getElem hi', List.getD_eq_getElem?_getD, List.getElem?_eq_getElem hi']; rfl
      obtain ⟨x, hx'⟩ : ∃ x, x = F.getD i 0 := ⟨_, rfl⟩
      rw [← hx'] at hh hx htk
      have efv' := efv
      by_cases hcc : x = j
      · have hm : (j : Int) ∈ F := hcc ▸ hx
        rw [efv]
        simp (disch := first | assumption | omega | (simp only [az]; done)) only [ru, eq_self, if_true, if_false, BEq.rfl, binI, AO.row?, splice, fillL, mmAll, loadV, storeV, zeros, Am.rowAt, Am.part, addOff, Nat.reduceAdd, Nat.reduceMul, Nat.reduceLeDiff, Nat.reduceSub, Nat.reduceLT, Int.reduceEq, Int.reduceLT, Int.reduceLE, Int.reduceGT, Int.reduceGE, Int.reduceAdd, Int.reduceSub, Int.reduceMul, Int.reduceNeg, Int.reduceToNat, reduceCtorEq, reduceIte, hlt2, Int.toNat_natCast, hc, hh, hcc, decide_true]
        refine ihk (s.bo.length - (j + 1)) _ _ _ (by omega) ⟨j + 1, by omega, rfl, fk, c3, by rw [crP_succ, if_pos hm, List.append_nil]; exact hpk, rfl, ?_, rfl, rfl, rfl, rfl, rfl⟩
        exact efv.symm
      · rw [efv]
        simp (disch := first | assumption | omega | (simp only [az]; done)) only [ru, eq_self, if_true, if_false, BEq.rfl, binI, AO.row?, splice, fillL, mmAll, loadV, storeV, zeros, Am.rowAt, Am.part, addOff, Nat.reduceAdd, Nat.reduceMul, Nat.reduceLeDiff, Nat.reduceSub, Nat.reduceLT, Int.reduceEq, Int.reduceLT, Int.reduceLE, Int.reduceGT, Int.reduceGE, Int.reduceAdd, Int.reduceSub, Int.reduceMul, Int.reduceNeg, Int.reduceToNat, reduceCtorEq, reduceIte, hlt2, Int.toNat_natCast, hc, hh, hcc, decide_false]
        refine ihi (F.length - (i + 1)) _ _ _ (by omega) ⟨i + 1, by omega, rfl, ?_, rfl, rfl, efv.symm, rfl, rfl, rfl, rfl, rfl, efv.symm, rfl, rfl, rfl⟩
        rw [htk, List.mem_append, List.mem_singleton]
        rintro (h | h)
        · exact hnot h
        · exact hcc h.symm
    obtain rfl : i = F.length := by omega
    rw [List.take_length] at hnot
    obtain ⟨mv, em, ea⟩ := rdk.more (by omega) (lim := lim) (j : Int)
    have n3 := (List.getElem?_eq_some_iff.1 c3).1
    have fr1 := Fr.app hk' [AO.cells ((F ++ [(j : Int)]).flatMap fun n => [I n]) false]
    have rd1 : RdB (o + 1) (hk' ++ [AO.cells ((F ++ [(j : Int)]).flatMap fun n => [I n]) false]) (.ms 1 hk'.length 0 (F.length + 1)) (F ++ [(j : Int)]) :=
      .inr ⟨by simp, hk'.length, false, by omega, by simp, atE⟩
    obtain ⟨h', hr, hp', fk'⟩ := ih (F ++ [(j : Int)]) (.ms 1 hk'.length 0 (F.length + 1)) _ (hk' ++ [AO.cells ((F ++ [(j : Int)]).flatMap fun n => [I n]) false]) (by simp; omega)
      (okC_snoc.2 ⟨hF, by omega, hnot⟩) rd1 (by simp; omega) (hP _ _ _ hpk fr1)
    simp (disch := first | assumption | omega | (simp only [az]; done)) only [ru, eq_self, if_true, if_false, BEq.rfl, binI, AO.row?, splice, fillL, mmAll, loadV, storeV, zeros, Am.rowAt, Am.part, addOff, Nat.reduceAdd, Nat.reduceMul, Nat.reduceLeDiff, Nat.reduceSub, Nat.reduceLT, Int.reduceEq, Int.reduceLT, Int.reduceLE, Int.reduceGT, Int.reduceGE, Int.reduceAdd, Int.reduceSub, Int.reduceMul, Int.reduceNeg, Int.reduceToNat, reduceCtorEq, reduceIte, hlt2, f1, c3, n3, at_ap, pex_slice3, em, exOp_litS, AV.pureV.go, AV.pureV, Bool.and_true, GO_mapp, GO_mcall0, unhN, unhC, setT, setT0, getT, getT0, atT, atT0, ea, hr, Bool.not_true, exOp_call0]
    refine ihk (s.bo.length - (j + 1)) _ _ _ (by omega) ⟨j + 1, by omega, rfl, fk.trans ((Fk.of fr1).trans fk'), ?_, ?_, rfl, rfl, rfl, rfl, rfl, rfl, rfl⟩
    · exact fk'.at (by omega) (fr1.at c3)
    · rw [crP_succ, if_neg hnot, ← List.append_assoc]; exact hp'
end Go.Proofs.Ytokhneffambgmaa.A

/-
The most that some crew lifts, and the cheapest crew: by the program.
-/
namespace Go.Proofs.Ytokhneffambgmaa.A
open Go Go.Am Go.Proofs.Ytokhneffambgmaa.T
set_option maxRecDepth 100000
set_option linter.unusedSimpArgs false
set_option linter.unusedVariables false

/-- the crews, each handed over -/
theorem r121 {s : Sea} {p b : AV} (H : SeaOk s p b) (hk4 : s.pl.length ≤ 4) (hnb : s.bo.length ≤ 6) {o lim : Nat} (hlim : lim ≤ o) {P : List (List Int) → List AO → Prop}
    (hP : ∀ D h h', P D h → Fr h h' → P D h')
    (hstep : ∀ D F fv h, o < h.length → P D h → RdB (o + 1) h fv F → isCr s F → ∃ h', R E (.rnd o) [fv] h lim = some (Bo true, h') ∧ P (D ++ [F]) h' ∧ Fk (o + 1) h h')
    {h : List AO} (ho : o < h.length) (h0 : P [] h) : ∃ r h', R E (.fn 49) [seaV s p b, .yld o] h lim = some (r, h') ∧ P (crws s) h' := by
  have fr := Fr.app h [(.cells [I s.w.lo, I s.w.hi, p, b] false : AO)]
  obtain ⟨h', hr, hp, _⟩ := r129 H hk4 hnb hlim hP hstep s.pl.length [] .nils [] (h ++ [.cells [I s.w.lo, I s.w.hi, p, b] false]) (by simp) ⟨by simp, by simp⟩ (.inl ⟨rfl, rfl⟩) (by simp; omega) (hP _ _ _ h0 fr)
  rw [List.nil_append] at hp
  refine R_of _ (es _ _ _ _) e49 ?_
  simp only [f49, seaV]
  simp (disch := first | assumption | omega | (simp only [az]; done)) only [ru, eq_self, if_true, if_false, BEq.rfl, binI, AO.row?, splice, fillL, mmAll, loadV, storeV, zeros, Am.rowAt, Am.part, addOff, Nat.reduceAdd, Nat.reduceMul, Nat.reduceLeDiff, Nat.reduceSub, Nat.reduceLT, Int.reduceEq, Int.reduceLT, Int.reduceLE, Int.reduceGT, Int.reduceGE, Int.reduceAdd, Int.reduceSub, Int.reduceMul, Int.reduceNeg, Int.reduceToNat, reduceCtorEq, reduceIte, exOp_call0, hr, fin0, fin0n]
  exact hp

def As102 : ACode := .region 0 [oP 4 (.move (.t 7))]
def Bd102 : ACode := .block 1 (.region 0 [oQ 8 (.load false 1 (.t 3)),
  oQ 9 (.load true 4 (.t 1)),
  oP 10 (.move (.t 4)),
  oQ 11 (.call 1 38 [(.t 9), (.t 10)]),
  oP 12 (.minmax true (.t 8) [(.t 11)]),
  ⟨none, .store 1 (.t 3) (.t 12), none, none, []⟩])

set_option maxHeartbeats 2000000 in
theorem s102 {s : Sea} {p b : AV} (H : SeaOk s p b) (K : SeaG s) (st : Bool) : Iso E 31 [seaV s p b] st = some (I (most s)) := by
  refine Iso_of (es _ _ _ _) e31 ?_
  simp only [f31, seaV]
  simp (disch := first | assumption | omega | (simp only [az]; done)) only [ru, eq_self, if_true, if_false, BEq.rfl, binI, AO.row?, splice, fillL, mmAll, loadV, storeV, zeros, Am.rowAt, Am.part, addOff, Nat.reduceAdd, Nat.reduceMul, Nat.reduceLeDiff, Nat.reduceSub, Nat.reduceLT, Int.reduceEq, Int.reduceLT, Int.reduceLE, Int.reduceGT, Int.reduceGE, Int.reduceAdd, Int.reduceSub, Int.reduceMul, Int.reduceNeg, Int.reduceToNat, reduceCtorEq, reduceIte, lenV_sl H.p, lenV_sl H.b, elem_sp H.p, elem_bt H.b, view_sl H.p, view_sl H.b, scalar_sl H.p, scalar_sl H.b, cells_sl H.p, cells_sl H.b, pure_sl H.p, pure_sl H.b, Int.toNat_natCast]
  obtain ⟨TS, hTS⟩ : ∃ TS : List AV, TS = [.agg [I s.w.lo, I s.w.hi, p, b], .ptr 0 0, I 0, .ptr 1 0, .undef, .agg [I s.w.lo, I s.w.hi, p, b], .fn 49 [.agg [I s.w.lo, I s.w.hi, p, b]] [], .undef, .undef, .undef, .undef, .undef, .undef, .undef] := ⟨_, rfl⟩
  obtain ⟨H1, hH1⟩ : ∃ H1 : List AO, H1 = [.cells [I s.w.lo, I s.w.hi, p, b] false, .cells [I 0] false, .dfr, .loop .ready none 31 TS [7] As102 Bd102 2] := ⟨_, rfl⟩
  have key := r121 H K.sp.le K.nb (o := 3) (lim := 0) (by omega)
    (P := fun D h => h[0]? = some (.cells [I s.w.lo, I s.w.hi, p, b] false) ∧ h[1]? = some (.cells [I (mst (lft s) D)] false) ∧ h[2]? = some .dfr ∧ h[3]? = some (.loop .ready none 31 TS [7] As102 Bd102 2))
    (by rintro D h h' ⟨a, b, c, d⟩ fr; exact ⟨fr.at a, fr.at b, fr.at c, fr.at d⟩) ?_ (h := H1) (by rw [hH1]; simp) (by rw [hH1]; exact ⟨rfl, rfl, rfl, rfl⟩)
  · refine G_range_of rfl rfl ?_
    rw [← hTS]
    obtain ⟨r, h3, hr, g0, g1, g2, g3⟩ := key
    rw [hH1] at hr
    refine ⟨r, h3, .ready, none, 31, TS, [7], As102, Bd102, 2, hr, g3, .inl rfl, ?_⟩
    simp only [Option.getD_none, GE_nrm]
    obtain ⟨h4, hh4⟩ : ∃ h4, h4 = h3.set (([(.cells [I s.w.lo, I s.w.hi, p, b] false : AO), .cells [I 0] false] : List AO).length + 1) (AO.loop .exhausted none 31 TS [7] As102 Bd102 2) := ⟨_, rfl⟩
    rw [← hh4]
    have k1 : h4[1]? = some (.cells [I (most s)] false) := by rw [hh4, List.getElem?_set_ne (by simp)]; exact g1
    have k2 : h4[2]? = some .dfr := by rw [hh4, List.getElem?_set_ne (by simp)]; exact g2
    rw [hTS]
    simp (disch := first | assumption | omega | (simp only [az]; done)) only [ru, eq_self, if_true, if_false, BEq.rfl, binI, AO.row?, splice, fillL, mmAll, loadV, storeV, zeros, Am.rowAt, Am.part, addOff, Nat.reduceAdd, Nat.reduceMul, Nat.reduceLeDiff, Nat.reduceSub, Nat.reduceLT, Int.reduceEq, Int.reduceLT, Int.reduceLE, Int.reduceGT, Int.reduceGE, Int.reduceAdd, Int.reduceSub, Int.reduceMul, Int.reduceNeg, Int.reduceToNat, reduceCtorEq, reduceIte, k1]
    refine finM (h' := h4.set 2 .tomb) (vs := [I (most s)]) (.inr rfl) (by simp) ?_ ?_ ?_
    · simp only [takeMarks, List.length_cons, List.length_nil, k2]
    · simp (disch := first | assumption | omega | (simp only [az]; done)) only [ru, eq_self, if_true, if_false, BEq.rfl, binI, AO.row?, splice, fillL, mmAll, loadV, storeV, zeros, Am.rowAt, Am.part, addOff, Nat.reduceAdd, Nat.reduceMul, Nat.reduceLeDiff, Nat.reduceSub, Nat.reduceLT, Int.reduceEq, Int.reduceLT, Int.reduceLE, Int.reduceGT, Int.reduceGE, Int.reduceAdd, Int.reduceSub, Int.reduceMul, Int.reduceNeg, Int.reduceToNat, reduceCtorEq, reduceIte, List.mapM_cons, List.mapM_nil, getRes, Option.bind_eq_bind, Option.pure_def, Option.bind_some]
    · exact view_int
  · rintro D F fv h ho ⟨g0, g1, g2, g3⟩ rd hcr
    have hcr' := fun i (hi : i < F.length) => isCr_at hcr hi
    have rl := rd.s.len
    have := R_rnd_of (E := E) (lim := 0) (args := [fv]) (P := fun r h' => r = Bo true ∧ (h'[0]? = some (.cells [I s.w.lo, I s.w.hi, p, b] false) ∧ h'[1]? = some (.cells [I (mst (lft s) (D ++ [F]))] false) ∧ h'[2]? = some .dfr ∧ h'[3]? = some (.loop .ready none 31 TS [7] As102 Bd102 2)) ∧ Fk 4 h h') g3 rfl (Nat.zero_le _) ?_
    · obtain ⟨r, h', hr, rfl, hp, fk⟩ := this
      exact ⟨h', hr, hp, fk⟩
    rw [hTS]
    simp only [setAll, List.set_cons_succ, List.set_cons_zero]
    rw [← hTS]
    unfold As102
    simp (disch := first | assumption | omega | (simp only [az]; done)) only [ru, eq_self, if_true, if_false, BEq.rfl, binI, AO.row?, splice, fillL, mmAll, loadV, storeV, zeros, Am.rowAt, Am.part, addOff, Nat.reduceAdd, Nat.reduceMul, Nat.reduceLeDiff, Nat.reduceSub, Nat.reduceLT, Int.reduceEq, Int.reduceLT, Int.reduceLE, Int.reduceGT, Int.reduceGE, Int.reduceAdd, Int.reduceSub, Int.reduceMul, Int.reduceNeg, Int.reduceToNat, reduceCtorEq, reduceIte]
    refine ⟨none, 31, TS, [7], As102, Bd102, 2, g3, ?_⟩
    obtain ⟨h6, hh6⟩ : ∃ h6, h6 = h.set 3 (AO.loop .busy none 31 TS [7] As102 Bd102 2) := ⟨_, rfl⟩
    rw [← hh6]
    have n0 : h6[0]? = some (.cells [I s.w.lo, I s.w.hi, p, b] false) := by rw [hh6, List.getElem?_set_ne (by omega)]; exact g0
    have n1 : h6[1]? = some (.cells [I (mst (lft s) D)] false) := by rw [hh6, List.getElem?_set_ne (by omega)]; exact g1
    have n2 : h6[2]? = some .dfr := by rw [hh6, List.getElem?_set_ne (by omega)]; exact g2
    have n3 : h6[3]? = some (AO.loop .busy none 31 TS [7] As102 Bd102 2) := by rw [hh6, List.getElem?_set_self (by omega)]
    have fk6 : Fk 4 h h6 := ⟨by rw [hh6]; simp, fun j hj hl => by rw [hh6, List.getElem?_set_ne (by omega)]⟩
    have vw := (rd.fk fk6).s.view (st := false) (k := 7)
    have g96 := fun st => s96 H K (resL_is F) (by rw [hcr.1]; omega) hcr' st
    simp only [seaV] at g96
    have em : mmx true (mst (lft s) D) (lft s F) = mst (lft s) (D ++ [F]) := by rw [mst_snoc]; rfl
    unfold Bd102
    simp (disch := first | assumption | omega | (simp only [az]; done)) only [ru, eq_self, if_true, if_false, BEq.rfl, binI, AO.row?, splice, fillL, mmAll, loadV, storeV, zeros, Am.rowAt, Am.part, addOff, Nat.reduceAdd, Nat.reduceMul, Nat.reduceLeDiff, Nat.reduceSub, Nat.reduceLT, Int.reduceEq, Int.reduceLT, Int.reduceLE, Int.reduceGT, Int.reduceGE, Int.reduceAdd, Int.reduceSub, Int.reduceMul, Int.reduceNeg, Int.reduceToNat, reduceCtorEq, reduceIte, lenV_sl H.p, lenV_sl H.b, elem_sp H.p, elem_bt H.b, view_sl H.p, view_sl H.b, scalar_sl H.p, scalar_sl H.b, cells_sl H.p, cells_sl H.b, pure_sl H.p, pure_sl H.b, Int.toNat_natCast, n0, n1, vw, g96, em]
    refine ⟨.busy, none, 31, TS, [7], As102, Bd102, 2, by rw [List.getElem?_set_ne (by omega)]; exact n3, ?_⟩
    refine ⟨⟨?_, ?_, ?_, ?_⟩, ⟨by rw [hh6]; simp, fun j hj hl => ?_⟩⟩
    · rw [List.getElem?_set_ne (by omega), List.getElem?_set_ne (by omega)]; exact n0
    · rw [List.getElem?_set_ne (by omega), List.getElem?_set_self (by rw [hh6]; simp; omega)]
    · rw [List.getElem?_set_ne (by omega), List.getElem?_set_ne (by omega)]; exact n2
    · rw [List.getElem?_set_self (by rw [hh6]; simp; omega)]; rfl
    · rw [List.getElem?_set_ne (by omega), List.getElem?_set_ne (by omega), hh6, List.getElem?_set_ne (by omega)]

/-! the cheapest crew -/
theorem bstS_no {f : List Int → Bool} {cost : List Int → Int} {b : Option (List Int)} {c : List Int} (h : f c = false) : bstS f cost b c = b := by
  unfold bstS; rw [h]; rfl
theorem bstS_new {f : List Int → Bool} {cost : List Int → Int} {c : List Int} (h : f c = true) : bstS f cost none c = some c := by
  unfold bstS; rw [h]; rfl
theorem bstS_lt {f : List Int → Bool} {cost : List Int → Int} {x c : List Int} (h : f c = true) (hl : cost c < cost x) : bstS f cost (some x) c = some c := by
  unfold bstS; rw [h]; simp only [if_true]; rw [if_pos hl]
theorem bstS_ge {f : List Int → Bool} {cost : List Int → Int} {x c : List Int} (h : f c = true) (hl : ¬ cost c < cost x) : bstS f cost (some x) c = some x := by
  unfold bstS; rw [h]; simp only [if_true]; rw [if_neg hl]
def bstV : Option (List Int) → List AO → AV → Prop
  | none, _, v => v = .nils
  | some c, h, v => c ≠ [] ∧ RdB 5 h v c
def bstC (s : Sea) : Option (List Int) → Int
  | none => 0
  | some c => cst s c
def As110 : ACode := .region 0 [oP 6 (.move (.t 10))]
def Bd110 : ACode := .block 1 (.seq (.seq (.region 0 [oQ 11 (.load true 4 (.t 1)), oP 12 (.move (.t 6)), oQ 13 (.call 1 36 [(.t 11), (.t 12)]), oP 14 (.un .not (.t 13))])
  (.cond (.t 14) (.exit 1) (.skip)))
  (.seq (.region 0 [oQ 15 (.load true 4 (.t 1)), oP 16 (.move (.t 6)), oQ 17 (.call 1 65 [(.t 15), (.t 16)]), oP 7 (.move (.t 17))])
  (.seq (.region 0 [oQ 18 (.load false 1 (.t 4)), oP 19 (.isNil (.t 18) (.c .nils)), oP 20 (.move (.t 19)), oG 21 20 false (.move (.t 7)), ⟨some 22, .load false 1 (.t 5), some (20, false), none, []⟩, oG 23 20 false (.bin .lss (.t 21) (.t 22)), oP 24 (.pick (.t 20) (.c (.bool true)) (.t 23))])
  (.cond (.t 24) (.region 0 [oP 25 (.move (.t 6)), oP 26 (.move (.t 7)), ⟨none, .store 1 (.t 4) (.t 25), none, none, []⟩, ⟨none, .store 1 (.t 5) (.t 26), none, none, []⟩]) (.skip)))))

set_option maxHeartbeats 4000000 in
theorem s110 {s : Sea} {p b : AV} (H : SeaOk s p b) (K : SeaG s) : Iso E 50 [seaV s p b] false = some (.tup [resL ((crew s).getD []), I (bstC s (crew s))]) := by
  refine Iso_of (es _ _ _ _) e50 ?_
  simp only [f50, seaV]
  simp (disch := first | assumption | omega | (simp only [az]; done)) only [ru, eq_self, if_true, if_false, BEq.rfl, binI, AO.row?, splice, fillL, mmAll, loadV, storeV, zeros, Am.rowAt, Am.part, addOff, Nat.reduceAdd, Nat.reduceMul, Nat.reduceLeDiff, Nat.reduceSub, Nat.reduceLT, Int.reduceEq, Int.reduceLT, Int.reduceLE, Int.reduceGT, Int.reduceGE, Int.reduceAdd, Int.reduceSub, Int.reduceMul, Int.reduceNeg, Int.reduceToNat, reduceCtorEq, reduceIte, lenV_sl H.p, lenV_sl H.b, elem_sp H.p, elem_bt H.b, view_sl H.p, view_sl H.b, scalar_sl H.p, scalar_sl H.b, cells_sl H.p, cells_sl H.b, pure_sl H.p, pure_sl H.b, Int.toNat_natCast]
  obtain ⟨TS, hTS⟩ : ∃ TS : List AV, TS = [.agg [I s.w.lo, I s.w.hi, p, b], .ptr 0 0, .nils, I 0, .ptr 1 0, .ptr 2 0, .undef, .undef, .agg [I s.w.lo, I s.w.hi, p, b], .fn 49 [.agg [I s.w.lo, I s.w.hi, p, b]] [], .undef, .undef, .undef, .undef, .undef, .undef, .undef, .undef, .undef, .undef, .undef, .undef, .undef, .undef, .undef, .undef, .undef, .undef, .undef] := ⟨_, rfl⟩
  obtain ⟨H1, hH1⟩ : ∃ H1 : List AO, H1 = [.cells [I s.w.lo, I s.w.hi, p, b] false, .cells [.nils] false, .cells [I 0] false, .dfr, .loop .ready none 50 TS [10] As110 Bd110 3] := ⟨_, rfl⟩
  have key := r121 H K.sp.le K.nb (o := 4) (lim := 0) (by omega)
    (P := fun D h => h[0]? = some (.cells [I s.w.lo, I s.w.hi, p, b] false) ∧ (∃ v, h[1]? = some (.cells [v] false) ∧ bstV (bst (fts s) (cst s) D) h v) ∧ h[2]? = some (.cells [I (bstC s (bst (fts s) (cst s) D))] false) ∧ h[3]? = some .dfr ∧ h[4]? = some (.loop .ready none 50 TS [10] As110 Bd110 3))
    (by
      rintro D h h' ⟨a, ⟨v, b, b'⟩, c, d, e⟩ fr
      refine ⟨fr.at a, ⟨v, fr.at b, ?_⟩, fr.at c, fr.at d, fr.at e⟩
      cases hb : bst (fts s) (cst s) D with
      | none => rw [hb] at b'; exact b'
      | some x => rw [hb] at b'; exact ⟨b'.1, b'.2.fk (Fk.of fr)⟩) ?_ (h := H1) (by rw [hH1]; simp) (by rw [hH1]; exact ⟨rfl, ⟨.nils, rfl, rfl⟩, rfl, rfl, rfl⟩)
  · refine G_range_of rfl rfl ?_
    rw [← hTS]
    obtain ⟨r, h3, hr, g0, ⟨v, g1, g1'⟩, g2, g3, g4⟩ := key
    rw [hH1] at hr
    refine ⟨r, h3, .ready, none, 50, TS, [10], As110, Bd110, 3, hr, g4, .inl rfl, ?_⟩
    simp only [Option.getD_none, GE_nrm]
    obtain ⟨h4, hh4⟩ : ∃ h4, h4 = h3.set (([(.cells [I s.w.lo, I s.w.hi, p, b] false : AO), .cells [.nils] false, .cells [I 0] false] : List AO).length + 1) (AO.loop .exhausted none 50 TS [10] As110 Bd110 3) := ⟨_, rfl⟩
    rw [← hh4]
    have k1 : h4[1]? = some (.cells [v] false) := by rw [hh4, List.getElem?_set_ne (by simp)]; exact g1
    have k2 : h4[2]? = some (.cells [I (bstC s (crew s))] false) := by rw [hh4, List.getElem?_set_ne (by simp)]; exact g2
    have k3 : h4[3]? = some .dfr := by rw [hh4, List.getElem?_set_ne (by simp)]; exact g3
    have vw : Am.view false (h4.set 3 .tomb) 7 v = some (resL ((crew s).getD [])) := by
      cases hb : crew s with
      | none => rw [show bst (fts s) (cst s) (crws s) = none from hb] at g1'; rw [show v = .nils from g1']; rfl
      | some x =>
        rw [show bst (fts s) (cst s) (crws s) = some x from hb] at g1'
        have fk : Fk 5 h3 (h4.set 3 .tomb) := ⟨by rw [hh4]; simp, fun j hj hl => by rw [List.getElem?_set_ne (by omega), hh4, List.getElem?_set_ne (by simp; omega)]⟩
        exact (g1'.2.fk fk).s.view
    rw [hTS]
    simp (disch := first | assumption | omega | (simp only [az]; done)) only [ru, eq_self, if_true, if_false, BEq.rfl, binI, AO.row?, splice, fillL, mmAll, loadV, storeV, zeros, Am.rowAt, Am.part, addOff, Nat.reduceAdd, Nat.reduceMul, Nat.reduceLeDiff, Nat.reduceSub, Nat.reduceLT, Int.reduceEq, Int.reduceLT, Int.reduceLE, Int.reduceGT, Int.reduceGE, Int.reduceAdd, Int.reduceSub, Int.reduceMul, Int.reduceNeg, Int.reduceToNat, reduceCtorEq, reduceIte, k1, k2]
    refine finM (h' := h4.set 3 .tomb) (vs := [v, I (bstC s (crew s))]) (.inr rfl) (by simp) ?_ ?_ ?_
    · simp only [takeMarks, List.length_cons, List.length_nil, k3]
    · simp (disch := first | assumption | omega | (simp only [az]; done)) only [ru, eq_self, if_true, if_false, BEq.rfl, binI, AO.row?, splice, fillL, mmAll, loadV, storeV, zeros, Am.rowAt, Am.part, addOff, Nat.reduceAdd, Nat.reduceMul, Nat.reduceLeDiff, Nat.reduceSub, Nat.reduceLT, Int.reduceEq, Int.reduceLT, Int.reduceLE, Int.reduceGT, Int.reduceGE, Int.reduceAdd, Int.reduceSub, Int.reduceMul, Int.reduceNeg, Int.reduceToNat, reduceCtorEq, reduceIte, List.mapM_cons, List.mapM_nil, getRes, Option.bind_eq_bind, Option.pure_def, Option.bind_some]
    · simp (disch := first | assumption | omega | (simp only [az]; done)) only [ru, eq_self, if_true, if_false, BEq.rfl, binI, AO.row?, splice, fillL, mmAll, loadV, storeV, zeros, Am.rowAt, Am.part, addOff, Nat.reduceAdd, Nat.reduceMul, Nat.reduceLeDiff, Nat.reduceSub, Nat.reduceLT, Int.reduceEq, Int.reduceLT, Int.reduceLE, Int.reduceGT, Int.reduceGE, Int.reduceAdd, Int.reduceSub, Int.reduceMul, Int.reduceNeg, Int.reduceToNat, reduceCtorEq, reduceIte, vw]
  · rintro D F fv h ho ⟨g0, ⟨v, g1, g1'⟩, g2, g3, g4⟩ rd hcr
    have hcr' := fun i (hi : i < F.length) => isCr_at hcr hi
    have rl := rd.s.len
    have hFn : F ≠ [] := by
      intro e; have := hcr.1; have := K.sp.ne; rw [e] at hcr; have := hcr.1; simp at this; omega
    have := R_rnd_of (E := E) (lim := 0) (args := [fv]) (P := fun r h' => r = Bo true ∧ (h'[0]? = some (.cells [I s.w.lo, I s.w.hi, p, b] false) ∧ (∃ v, h'[1]? = some (.cells [v] false) ∧ bstV (bst (fts s) (cst s) (D ++ [F])) h' v) ∧ h'[2]? = some (.cells [I (bstC s (bst (fts s) (cst s) (D ++ [F])))] false) ∧ h'[3]? = some .dfr ∧ h'[4]? = some (.loop .ready none 50 TS [10] As110 Bd110 3)) ∧ Fk 5 h h') g4 rfl (Nat.zero_le _) ?_
    · obtain ⟨r, h', hr, rfl, hp, fk⟩ := this
      exact ⟨h', hr, hp, fk⟩
    rw [hTS]
    simp only [setAll, List.set_cons_succ, List.set_cons_zero]
    rw [← hTS]
    unfold As110
    simp (disch := first | assumption | omega | (simp only [az]; done)) only [ru, eq_self, if_true, if_false, BEq.rfl, binI, AO.row?, splice, fillL, mmAll, loadV, storeV, zeros, Am.rowAt, Am.part, addOff, Nat.reduceAdd, Nat.reduceMul, Nat.reduceLeDiff, Nat.reduceSub, Nat.reduceLT, Int.reduceEq, Int.reduceLT, Int.reduceLE, Int.reduceGT, Int.reduceGE, Int.reduceAdd, Int.reduceSub, Int.reduceMul, Int.reduceNeg, Int.reduceToNat, reduceCtorEq, reduceIte]
    refine ⟨none, 50, TS, [10], As110, Bd110, 3, g4, ?_⟩
    obtain ⟨h6, hh6⟩ : ∃ h6, h6 = h.set 4 (AO.loop .busy none 50 TS [10] As110 Bd110 3) := ⟨_, rfl⟩
    rw [← hh6]
    have n0 : h6[0]? = some (.cells [I s.w.lo, I s.w.hi, p, b] false) := by rw [hh6, List.getElem?_set_ne (by omega)]; exact g0
    have n1 : h6[1]? = some (.cells [v] false) := by rw [hh6, List.getElem?_set_ne (by omega)]; exact g1
    have n2 : h6[2]? = some (.cells [I (bstC s (bst (fts s) (cst s) D))] false) := by rw [hh6, List.getElem?_set_ne (by omega)]; exact g2
    have n3 : h6[3]? = some .dfr := by rw [hh6, List.getElem?_set_ne (by omega)]; exact g3
    have n4 : h6[4]? = some (AO.loop .busy none 50 TS [10] As110 Bd110 3) := by rw [hh6, List.getElem?_set_self (by omega)]
    have l6 : h6.length = h.length := by rw [hh6]; simp
    have fk6 : Fk 5 h h6 := ⟨by omega, fun j hj hl => by rw [hh6, List.getElem?_set_ne (by omega)]⟩
    have vw := (rd.fk fk6).s.view (st := false) (k := 7)
    have g79 := fun st => s79 H K (resL_is F) (by rw [hcr.1]; omega) hcr' st
    have g123 := fun st => s123 H K (resL_is F) (by rw [hcr.1]; have := K.sp.le; omega) hcr' st
    simp only [seaV] at g79 g123
    have ef := fts_lft K hcr.1
    have fin : ∀ (h7 : List AO), h7.length = h.length → (∀ j, 5 ≤ j → j < h.length → h7[j]? = h6[j]?) → Fk 5 h h7 := fun h7 hl hk => ⟨by omega, fun j hj hl' => by rw [hk j hj hl', hh6, List.getElem?_set_ne (by omega)]⟩
    unfold Bd110
    have esn : bst (fts s) (cst s) (D ++ [F]) = bstS (fts s) (cst s) (bst (fts s) (cst s) D) F := bst_snoc
    by_cases hf : s.w.hi ≤ lft s F
    case neg =>
      have ef' : fts s F = false := by rw [ef]; exact decide_eq_false hf
      have eb : bst (fts s) (cst s) (D ++ [F]) = bst (fts s) (cst s) D := by rw [esn, bstS_no ef']
      rw [eb]
      simp (disch := first | assumption | omega | (simp only [az]; done)) only [ru, eq_self, if_true, if_false, BEq.rfl, binI, AO.row?, splice, fillL, mmAll, loadV, storeV, zeros, Am.rowAt, Am.part, addOff, Nat.reduceAdd, Nat.reduceMul, Nat.reduceLeDiff, Nat.reduceSub, Nat.reduceLT, Int.reduceEq, Int.reduceLT, Int.reduceLE, Int.reduceGT, Int.reduceGE, Int.reduceAdd, Int.reduceSub, Int.reduceMul, Int.reduceNeg, Int.reduceToNat, reduceCtorEq, reduceIte, lenV_sl H.p, lenV_sl H.b, elem_sp H.p, elem_bt H.b, view_sl H.p, view_sl H.b, scalar_sl H.p, scalar_sl H.b, cells_sl H.p, cells_sl H.b, pure_sl H.p, pure_sl H.b, Int.toNat_natCast, n0, vw, g79, hf, decide_false, Bool.not_false]
      refine ⟨.busy, none, 50, TS, [10], As110, Bd110, 3, n4, ?_⟩
      have fk7 : Fk 5 h (h6.set 4 (AO.loop LoopState.ready none 50 TS [10] As110 Bd110 3)) := fin _ (by simp; omega) fun j hj _ => by rw [List.getElem?_set_ne (by omega)]
      refine ⟨⟨by rw [List.getElem?_set_ne (by omega)]; exact n0, ⟨v, by rw [List.getElem?_set_ne (by omega)]; exact n1, ?_⟩, by rw [List.getElem?_set_ne (by omega)]; exact n2, by rw [List.getElem?_set_ne (by omega)]; exact n3, by rw [List.getElem?_set_self (by omega)]; rfl⟩, fk7⟩
      cases hb : bst (fts s) (cst s) D with
      | none => rw [hb] at g1'; exact g1'
      | some x => rw [hb] at g1'; exact ⟨g1'.1, g1'.2.fk fk7⟩
    have ef' : fts s F = true := by rw [ef]; exact decide_eq_true hf
    -- the crew is kept, or not
    have keep : ∀ (v0 : AV), bst (fts s) (cst s) (D ++ [F]) = some F → Fk 5 h (((h6.set 1 (.cells [fv] false)).set 2 (.cells [I (cst s F)] false)).set 4 (AO.loop LoopState.ready none 50 TS [10] As110 Bd110 3)) ∧
        bstV (bst (fts s) (cst s) (D ++ [F])) (((h6.set 1 (.cells [fv] false)).set 2 (.cells [I (cst s F)] false)).set 4 (AO.loop LoopState.ready none 50 TS [10] As110 Bd110 3)) fv := fun v0 e => by
      have fk7 := fin (((h6.set 1 (.cells [fv] false)).set 2 (.cells [I (cst s F)] false)).set 4 (AO.loop LoopState.ready none 50 TS [10] As110 Bd110 3)) (by simp; omega) fun j hj _ => by rw [List.getElem?_set_ne (by omega), List.getElem?_set_ne (by omega), List.getElem?_set_ne (by omega)]
      exact ⟨fk7, by rw [e]; exact ⟨hFn, rd.fk fk7⟩⟩
    have setk : ∀ (e : bst (fts s) (cst s) (D ++ [F]) = some F), (((h6.set 1 (.cells [fv] false)).set 2 (.cells [I (cst s F)] false)).set 4 (AO.loop LoopState.ready none 50 TS [10] As110 Bd110 3))[0]? = some (.cells [I s.w.lo, I s.w.hi, p, b] false) ∧
        (∃ v, (((h6.set 1 (.cells [fv] false)).set 2 (.cells [I (cst s F)] false)).set 4 (AO.loop LoopState.ready none 50 TS [10] As110 Bd110 3))[1]? = some (.cells [v] false) ∧ bstV (bst (fts s) (cst s) (D ++ [F])) (((h6.set 1 (.cells [fv] false)).set 2 (.cells [I (cst s F)] false)).set 4 (AO.loop LoopState.ready none 50 TS [10] As110 Bd110 3)) v) ∧
        (((h6.set 1 (.cells [fv] false)).set 2 (.cells [I (cst s F)] false)).set 4 (AO.loop LoopState.ready none 50 TS [10] As110 Bd110 3))[2]? = some (.cells [I (bstC s (bst (fts s) (cst s) (D ++ [F])))] false) ∧
        (((h6.set 1 (.cells [fv] false)).set 2 (.cells [I (cst s F)] false)).set 4 (AO.loop LoopState.ready none 50 TS [10] As110 Bd110 3))[3]? = some .dfr ∧
        (((h6.set 1 (.cells [fv] false)).set 2 (.cells [I (cst s F)] false)).set 4 (AO.loop LoopState.ready none 50 TS [10] As110 Bd110 3))[4]? = some (AO.loop LoopState.ready none 50 TS [10] As110 Bd110 3) := fun e => by
      refine ⟨?_, ⟨fv, ?_, (keep v e).2⟩, ?_, ?_, ?_⟩
      · rw [List.getElem?_set_ne (by omega), List.getElem?_set_ne (by omega), List.getElem?_set_ne (by omega)]; exact n0
      · rw [List.getElem?_set_ne (by omega), List.getElem?_set_ne (by omega), List.getElem?_set_self (by omega)]
      · rw [e, List.getElem?_set_ne (by omega), List.getElem?_set_self (by simp; omega)]; rfl
      · rw [List.getElem?_set_ne (by omega), List.getElem?_set_ne (by omega), List.getElem?_set_ne (by omega)]; exact n3
      · rw [List.getElem?_set_self (by simp; omega)]
    have at2 : (h6.set 1 (.cells [fv] false))[2]? = some (.cells [I (bstC s (bst (fts s) (cst s) D))] false) := by rw [List.getElem?_set_ne (by omega)]; exact n2
    have at4 : ((h6.set 1 (.cells [fv] false)).set 2 (.cells [I (cst s F)] false))[4]? = some (AO.loop .busy none 50 TS [10] As110 Bd110 3) := by rw [List.getElem?_set_ne (by omega), List.getElem?_set_ne (by omega)]; exact n4
    cases hb : bst (fts s) (cst s) D with
    | none =>
      rw [hb] at g1' n2 esn at2
      have ev : v = .nils := g1'
      subst ev
      have e : bst (fts s) (cst s) (D ++ [F]) = some F := by rw [esn, bstS_new ef']
      simp (disch := first | assumption | omega | (simp only [az]; done)) only [ru, eq_self, if_true, if_false, BEq.rfl, binI, AO.row?, splice, fillL, mmAll, loadV, storeV, zeros, Am.rowAt, Am.part, addOff, Nat.reduceAdd, Nat.reduceMul, Nat.reduceLeDiff, Nat.reduceSub, Nat.reduceLT, Int.reduceEq, Int.reduceLT, Int.reduceLE, Int.reduceGT, Int.reduceGE, Int.reduceAdd, Int.reduceSub, Int.reduceMul, Int.reduceNeg, Int.reduceToNat, reduceCtorEq, reduceIte, lenV_sl H.p, lenV_sl H.b, elem_sp H.p, elem_bt H.b, view_sl H.p, view_sl H.b, scalar_sl H.p, scalar_sl H.b, cells_sl H.p, cells_sl H.b, pure_sl H.p, pure_sl H.b, Int.toNat_natCast, n0, n1, n2, at2, vw, g79, g123, hf, decide_true, Bool.not_true, pex_isNil, rl.2.1, rl.2.2, List.drop_one, List.tail_cons]
      exact ⟨.busy, none, 50, TS, [10], As110, Bd110, 3, at4, setk e, (keep .nils e).1⟩
    | some x =>
      rw [hb] at g1' n2 esn at2
      obtain ⟨hx, rx⟩ := g1'
      have ⟨xo, xsh, xb, xe, xc⟩ : ∃ o sh, 5 ≤ o ∧ v = .ms 1 o 0 x.length ∧ h[o]? = some (.cells (x.flatMap fun n => [I n]) sh) := by
        rcases rx with ⟨h, _⟩ | ⟨_, h⟩
        · exact absurd h hx
        · exact h
      have eC : bstC s (some x) = cst s x := rfl
      rw [eC] at n2 at2
      by_cases hlt : cst s F < cst s x
      · have e : bst (fts s) (cst s) (D ++ [F]) = some F := by rw [esn, bstS_lt ef' hlt]
        rw [xe] at n1
        simp (disch := first | assumption | omega | (simp only [az]; done)) only [ru, eq_self, if_true, if_false, BEq.rfl, binI, AO.row?, splice, fillL, mmAll, loadV, storeV, zeros, Am.rowAt, Am.part, addOff, Nat.reduceAdd, Nat.reduceMul, Nat.reduceLeDiff, Nat.reduceSub, Nat.reduceLT, Int.reduceEq, Int.reduceLT, Int.reduceLE, Int.reduceGT, Int.reduceGE, Int.reduceAdd, Int.reduceSub, Int.reduceMul, Int.reduceNeg, Int.reduceToNat, reduceCtorEq, reduceIte, lenV_sl H.p, lenV_sl H.b, elem_sp H.p, elem_bt H.b, view_sl H.p, view_sl H.b, scalar_sl H.p, scalar_sl H.b, cells_sl H.p, cells_sl H.b, pure_sl H.p, pure_sl H.b, Int.toNat_natCast, n0, n1, n2, at2, vw, g79, g123, hf, hlt, decide_true, Bool.not_true, pex_isNil, rl.2.1, rl.2.2, List.drop_one, List.tail_cons]
        exact ⟨.busy, none, 50, TS, [10], As110, Bd110, 3, at4, setk e, (keep .nils e).1⟩
      · have e : bst (fts s) (cst s) (D ++ [F]) = some x := by rw [esn, bstS_ge ef' hlt]
        rw [e]
        have fk7 : Fk 5 h (h6.set 4 (AO.loop LoopState.ready none 50 TS [10] As110 Bd110 3)) := fin _ (by simp; omega) fun j hj _ => by rw [List.getElem?_set_ne (by omega)]
        have n1' := n1
        rw [xe] at n1
        simp (disch := first | assumption | omega | (simp only [az]; done)) only [ru, eq_self, if_true, if_false, BEq.rfl, binI, AO.row?, splice, fillL, mmAll, loadV, storeV, zeros, Am.rowAt, Am.part, addOff, Nat.reduceAdd, Nat.reduceMul, Nat.reduceLeDiff, Nat.reduceSub, Nat.reduceLT, Int.reduceEq, Int.reduceLT, Int.reduceLE, Int.reduceGT, Int.reduceGE, Int.reduceAdd, Int.reduceSub, Int.reduceMul, Int.reduceNeg, Int.reduceToNat, reduceCtorEq, reduceIte, lenV_sl H.p, lenV_sl H.b, elem_sp H.p, elem_bt H.b, view_sl H.p, view_sl H.b, scalar_sl H.p, scalar_sl H.b, cells_sl H.p, cells_sl H.b, pure_sl H.p, pure_sl H.b, Int.toNat_natCast, n0, n1, n2, vw, g79, g123, hf, hlt, decide_true, decide_false, Bool.not_true, pex_isNil]
        exact ⟨.busy, none, 50, TS, [10], As110, Bd110, 3, n4, ⟨by rw [List.getElem?_set_ne (by omega)]; exact n0, ⟨v, by rw [List.getElem?_set_ne (by omega)]; exact n1', hx, rx.fk fk7⟩, by rw [List.getElem?_set_ne (by omega), eC]; exact n2, by rw [List.getElem?_set_ne (by omega)]; exact n3, by rw [List.getElem?_set_self (by omega)]; rfl⟩, fk7⟩
end Go.Proofs.Ytokhneffambgmaa.A

/-
Crew, Cheap and Most of both sides.
-/
namespace Go.Proofs.Ytokhneffambgmaa.A
open Go Go.Am Go.Proofs.Ytokhneffambgmaa.T
set_option maxRecDepth 100000
set_option linter.unusedSimpArgs false
set_option linter.unusedVariables false

theorem resL_cons {a : Int} {t : List Int} : resL (a :: t) = .cs 1 (t.length + 1) ((a :: t).flatMap intL) := by
  unfold resL slV; rw [if_neg (by simp)]; rfl
theorem resL_nil : resL [] = .nils := rfl
theorem fin3 {lim i j k : Nat} {P : AV → List AO → Prop} {ts : List AV} {h : List AO} : Done lim [.tmp i, .tmp j, .tmp k] P .ret ⟨ts, h, []⟩ = P (.tup [ts.getD i .undef, ts.getD j .undef, ts.getD k .undef]) h := by
  simp [Done, finish, takeMarks, getRes]
def cheR (s : Sea) : AV := if s.valid then (match crew s with | none => .tup [I 0, I 3] | some l => .tup [I (cst s l), I 0]) else .tup [I 0, I 50]
def mosR (s : Sea) : AV := if s.valid then (if s.pl.length ≤ s.bo.length then .tup [I (most s), I 0] else .tup [I 0, I 3]) else .tup [I 0, I 50]

section
variable {s : Sea} {p b : AV}
theorem crew_ne (K : SeaG s) {l : List Int} (h : isCr s l) : l ≠ [] := by
  have := K.sp.ne
  intro e; rw [e] at h; have := h.1; simp at this; omega

where
  bst_mem {f : List Int → Bool} {cost : List Int → Int} {l : List (List Int)} {x : List Int} : bst f cost l = some x → x ∈ l := by
    refine snocRec (fun l => bst f cost l = some x → x ∈ l) l (fun h => by cases h) ?_
    intro l c ih h
    rw [bst_snoc] at h
    cases hf : f c
    · rw [bstS_no hf] at h; exact List.mem_append_left _ (ih h)
    · cases hb : bst f cost l with
      | none => rw [hb, bstS_new hf] at h; cases h; simp
      | some y =>
        rw [hb] at h ih
        by_cases hl : cost c < cost y
        · rw [bstS_lt hf hl] at h; cases h; simp
        · rw [bstS_ge hf hl] at h; exact List.mem_append_left _ (ih h)
/-- the program's both answers -/
def cc3 (s : Sea) : AV := if s.valid then (match crew s with | none => .tup [.nils, I 0, I 3] | some l => .tup [resL l, I (cst s l), I 0]) else .tup [.nils, I 0, I 50]
theorem s81 (H : SeaOk s p b) : Iso E 32 [seaV s p b] false = some (cc3 s) := by
  have g1 := fun st => s52 H st
  refine Iso_of (es _ _ _ _) e32 ?_
  simp only [f32, seaV, cc3] at g1 ⊢
  cases hv : s.valid
  · simp (disch := first | assumption | omega | (simp only [az]; done)) only [ru, eq_self, if_true, if_false, BEq.rfl, binI, AO.row?, splice, fillL, mmAll, loadV, storeV, zeros, Am.rowAt, Am.part, addOff, Nat.reduceAdd, Nat.reduceMul, Nat.reduceLeDiff, Nat.reduceSub, Nat.reduceLT, Int.reduceEq, Int.reduceLT, Int.reduceLE, Int.reduceGT, Int.reduceGE, Int.reduceAdd, Int.reduceSub, Int.reduceMul, Int.reduceNeg, Int.reduceToNat, reduceCtorEq, reduceIte, lenV_sl H.p, lenV_sl H.b, elem_sp H.p, elem_bt H.b, view_sl H.p, view_sl H.b, scalar_sl H.p, scalar_sl H.b, cells_sl H.p, cells_sl H.b, pure_sl H.p, pure_sl H.b, Int.toNat_natCast, g1, hv, vE, fin3, Bool.false_eq_true]
  have K := (valid_good hv).1
  have g2 := s110 H K
  simp only [seaV] at g2
  cases hc : crew s with
  | none =>
    rw [hc] at g2
    simp only [Option.getD_none, resL_nil, bstC] at g2
    simp (disch := first | assumption | omega | (simp only [az]; done)) only [ru, eq_self, if_true, if_false, BEq.rfl, binI, AO.row?, splice, fillL, mmAll, loadV, storeV, zeros, Am.rowAt, Am.part, addOff, Nat.reduceAdd, Nat.reduceMul, Nat.reduceLeDiff, Nat.reduceSub, Nat.reduceLT, Int.reduceEq, Int.reduceLT, Int.reduceLE, Int.reduceGT, Int.reduceGE, Int.reduceAdd, Int.reduceSub, Int.reduceMul, Int.reduceNeg, Int.reduceToNat, reduceCtorEq, reduceIte, lenV_sl H.p, lenV_sl H.b, elem_sp H.p, elem_bt H.b, view_sl H.p, view_sl H.b, scalar_sl H.p, scalar_sl H.b, cells_sl H.p, cells_sl H.b, pure_sl H.p, pure_sl H.b, Int.toNat_natCast, g1, g2, hv, vE, fin3, pvFn, pex_isNil]
  | some l =>
    rw [hc] at g2
    have hcr := (crew_some hc).1
    have XX := resL_is l
    match l, crew_ne K hcr with
    | a :: t, _ =>
      simp only [Option.getD_some, bstC] at g2
      have vw := fun h n => view_sl XX h n
      simp only [resL_cons] at g2 vw ⊢
      simp (disch := first | assumption | omega | (simp only [az]; done)) only [ru, eq_self, if_true, if_false, BEq.rfl, binI, AO.row?, splice, fillL, mmAll, loadV, storeV, zeros, Am.rowAt, Am.part, addOff, Nat.reduceAdd, Nat.reduceMul, Nat.reduceLeDiff, Nat.reduceSub, Nat.reduceLT, Int.reduceEq, Int.reduceLT, Int.reduceLE, Int.reduceGT, Int.reduceGE, Int.reduceAdd, Int.reduceSub, Int.reduceMul, Int.reduceNeg, Int.reduceToNat, reduceCtorEq, reduceIte, lenV_sl H.p, lenV_sl H.b, elem_sp H.p, elem_bt H.b, view_sl H.p, view_sl H.b, scalar_sl H.p, scalar_sl H.b, cells_sl H.p, cells_sl H.b, pure_sl H.p, pure_sl H.b, Int.toNat_natCast, g1, g2, hv, vE, fin3, pex_isNil, vw]
theorem s32 (H : SeaOk s p b) (st : Bool) : Iso E 13 [seaV s p b] st = some (cheR s) := by
  have g1 := s81 H
  refine Iso_of (es _ _ _ _) e13 ?_
  simp only [f13, seaV, cc3, cheR] at g1 ⊢
  cases hv : s.valid
  · simp only [hv, Bool.false_eq_true, if_false] at g1
    simp (disch := first | assumption | omega | (simp only [az]; done)) only [ru, eq_self, if_true, if_false, BEq.rfl, binI, AO.row?, splice, fillL, mmAll, loadV, storeV, zeros, Am.rowAt, Am.part, addOff, Nat.reduceAdd, Nat.reduceMul, Nat.reduceLeDiff, Nat.reduceSub, Nat.reduceLT, Int.reduceEq, Int.reduceLT, Int.reduceLE, Int.reduceGT, Int.reduceGE, Int.reduceAdd, Int.reduceSub, Int.reduceMul, Int.reduceNeg, Int.reduceToNat, reduceCtorEq, reduceIte, lenV_sl H.p, lenV_sl H.b, elem_sp H.p, elem_bt H.b, view_sl H.p, view_sl H.b, scalar_sl H.p, scalar_sl H.b, cells_sl H.p, cells_sl H.b, pure_sl H.p, pure_sl H.b, Int.toNat_natCast, g1, hv, Bool.false_eq_true]
  cases hc : crew s with
  | none =>
    simp only [hv, hc, if_true] at g1
    simp (disch := first | assumption | omega | (simp only [az]; done)) only [ru, eq_self, if_true, if_false, BEq.rfl, binI, AO.row?, splice, fillL, mmAll, loadV, storeV, zeros, Am.rowAt, Am.part, addOff, Nat.reduceAdd, Nat.reduceMul, Nat.reduceLeDiff, Nat.reduceSub, Nat.reduceLT, Int.reduceEq, Int.reduceLT, Int.reduceLE, Int.reduceGT, Int.reduceGE, Int.reduceAdd, Int.reduceSub, Int.reduceMul, Int.reduceNeg, Int.reduceToNat, reduceCtorEq, reduceIte, lenV_sl H.p, lenV_sl H.b, elem_sp H.p, elem_bt H.b, view_sl H.p, view_sl H.b, scalar_sl H.p, scalar_sl H.b, cells_sl H.p, cells_sl H.b, pure_sl H.p, pure_sl H.b, Int.toNat_natCast, g1, hv]
  | some l =>
    simp only [hv, hc, if_true] at g1
    have XX := resL_is l
    simp (disch := first | assumption | omega | (simp only [az]; done)) only [ru, eq_self, if_true, if_false, BEq.rfl, binI, AO.row?, splice, fillL, mmAll, loadV, storeV, zeros, Am.rowAt, Am.part, addOff, Nat.reduceAdd, Nat.reduceMul, Nat.reduceLeDiff, Nat.reduceSub, Nat.reduceLT, Int.reduceEq, Int.reduceLT, Int.reduceLE, Int.reduceGT, Int.reduceGE, Int.reduceAdd, Int.reduceSub, Int.reduceMul, Int.reduceNeg, Int.reduceToNat, reduceCtorEq, reduceIte, lenV_sl H.p, lenV_sl H.b, elem_sp H.p, elem_bt H.b, view_sl H.p, view_sl H.b, scalar_sl H.p, scalar_sl H.b, cells_sl H.p, cells_sl H.b, pure_sl H.p, pure_sl H.b, Int.toNat_natCast, lenV_sl XX, elem_in XX, view_sl XX, scalar_sl XX, cells_sl XX, pure_sl XX, Int.toNat_natCast, g1, hv]

theorem s67 (H : SeaOk s p b) (st : Bool) : Iso E 12 [seaV s p b] st = some (mosR s) := by
  have g1 := fun st => s85 H st
  refine Iso_of (es _ _ _ _) e12 ?_
  simp only [f12, seaV, mosR] at g1 ⊢
  cases hv : s.valid
  · simp (disch := first | assumption | omega | (simp only [az]; done)) only [ru, eq_self, if_true, if_false, BEq.rfl, binI, AO.row?, splice, fillL, mmAll, loadV, storeV, zeros, Am.rowAt, Am.part, addOff, Nat.reduceAdd, Nat.reduceMul, Nat.reduceLeDiff, Nat.reduceSub, Nat.reduceLT, Int.reduceEq, Int.reduceLT, Int.reduceLE, Int.reduceGT, Int.reduceGE, Int.reduceAdd, Int.reduceSub, Int.reduceMul, Int.reduceNeg, Int.reduceToNat, reduceCtorEq, reduceIte, lenV_sl H.p, lenV_sl H.b, elem_sp H.p, elem_bt H.b, view_sl H.p, view_sl H.b, scalar_sl H.p, scalar_sl H.b, cells_sl H.p, cells_sl H.b, pure_sl H.p, pure_sl H.b, Int.toNat_natCast, g1, hv, aE, Bool.false_eq_true]
  have g2 := fun st => s102 H (valid_good hv).1 st
  simp only [seaV] at g2
  by_cases hc : s.pl.length ≤ s.bo.length
  · simp (disch := first | assumption | omega | (simp only [az]; done)) only [ru, eq_self, if_true, if_false, BEq.rfl, binI, AO.row?, splice, fillL, mmAll, loadV, storeV, zeros, Am.rowAt, Am.part, addOff, Nat.reduceAdd, Nat.reduceMul, Nat.reduceLeDiff, Nat.reduceSub, Nat.reduceLT, Int.reduceEq, Int.reduceLT, Int.reduceLE, Int.reduceGT, Int.reduceGE, Int.reduceAdd, Int.reduceSub, Int.reduceMul, Int.reduceNeg, Int.reduceToNat, reduceCtorEq, reduceIte, lenV_sl H.p, lenV_sl H.b, elem_sp H.p, elem_bt H.b, view_sl H.p, view_sl H.b, scalar_sl H.p, scalar_sl H.b, cells_sl H.p, cells_sl H.b, pure_sl H.p, pure_sl H.b, Int.toNat_natCast, g1, g2, hv, aE, hc, decide_true]
  · simp (disch := first | assumption | omega | (simp only [az]; done)) only [ru, eq_self, if_true, if_false, BEq.rfl, binI, AO.row?, splice, fillL, mmAll, loadV, storeV, zeros, Am.rowAt, Am.part, addOff, Nat.reduceAdd, Nat.reduceMul, Nat.reduceLeDiff, Nat.reduceSub, Nat.reduceLT, Int.reduceEq, Int.reduceLT, Int.reduceLE, Int.reduceGT, Int.reduceGE, Int.reduceAdd, Int.reduceSub, Int.reduceMul, Int.reduceNeg, Int.reduceToNat, reduceCtorEq, reduceIte, lenV_sl H.p, lenV_sl H.b, elem_sp H.p, elem_bt H.b, view_sl H.p, view_sl H.b, scalar_sl H.p, scalar_sl H.b, cells_sl H.p, cells_sl H.b, pure_sl H.p, pure_sl H.b, Int.toNat_natCast, g1, hv, aE, hc, decide_false, Bool.false_eq_true]
end
end Go.Proofs.Ytokhneffambgmaa.A

