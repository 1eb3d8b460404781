/-
The functions of both sides of stage 5, one after another (S2).
-/
import Derived.Test.YtdmhbefdidmliaaS1
import Derived.Test.YtdmhbefdidmliaaAmY

/-
Crews on both sides: is a list one? What it costs, lifts, and whether it holds.
-/
namespace Go.Proofs.Ytdmhbefdidmliaa.S
open Go Go.Am Go.Proofs.Ytdmhbefdidmliaa.T
set_option maxRecDepth 100000
set_option linter.unusedSimpArgs false
set_option linter.unusedVariables false

/-- a list that lies in the heap, in an object of its own -/
def RdC {α : Type} (enc : α → List AV) (esz : Nat) (h : List AO) (w : AV) (l : List α) : Prop := ∃ o, w = .ms esz o 0 l.length ∧ h[o]? = some (.cells (l.flatMap enc) false)
section
variable {α : Type} {enc : α → List AV} {esz eb : Nat} {l : List α}
theorem RdC.fr {h h' : List AO} {w : AV} (H : RdC enc esz h w l) (F : Fr h h') : RdC enc esz h' w l := by
  obtain ⟨o, e, hc⟩ := H; exact ⟨o, e, F.at hc⟩
theorem RdC.view {h : List AO} {w : AV} (H : RdC enc esz h w l) (he : ∀ a, (enc a).length = esz) (hi : ∀ a, ∀ x ∈ enc a, ∃ k i, x = .int k i) {st : Bool} {k : Nat} : Am.view st h (k + 1) w = some (slV esz enc l) := by
  obtain ⟨o, rfl, hc⟩ := H
  have e := flat_take (l := l) he
  simp only [view_ms, rowOf_ms, Am.rowAt, hc, Option.bind_some, AO.row?, List.drop_zero, e, flat_len he, if_true, flat_view hi]
  rfl
theorem RdC.sc {h : List AO} {w : AV} (H : RdC enc esz h w l) : w.cells = [w] ∧ w.scalar = true ∧ lenV w = some (I l.length) := by
  obtain ⟨o, rfl, hc⟩ := H; exact ⟨rfl, rfl, rfl⟩
theorem cpyV {v : AV} {h : List AO} {lim : Nat} (hv : IsSl esz enc l v) (he : ∀ a, (enc a).length = esz) (hs : ∀ a, (enc a).all AV.scalar = true) (hb : l.length * eb ≤ 140737488355328) (heb : 1 ≤ eb) (hlim : lim ≤ h.length) :
    ∃ w h', appV lim (h ++ [.cells [] false]) esz eb (.ms esz h.length 0 0) v = some (w, h') ∧ Fr h h' ∧ RdC enc esz h' w l := by
  rw [appV_new hv he hs hb heb _ _ _ atE hlim]
  by_cases hz : l.length = 0
  · rw [if_pos hz]
    refine ⟨_, _, rfl, Fr.app _ _, h.length, by rw [hz], ?_⟩
    rw [List.eq_nil_of_length_eq_zero hz]; exact atE
  · rw [if_neg hz]
    refine ⟨_, _, rfl, ⟨by simp, fun j hj => ?_⟩, (h ++ [AO.cells [] false]).length, rfl, ?_⟩
    · rw [List.getElem?_append_left (by simp; omega), List.getElem?_set_ne (by omega), List.getElem?_append_left hj]
    · rw [List.getElem?_append_right (by simp)]; simp
theorem cpyG {v : AV} {h J : List AO} {lim : Nat} (hv : IsSl esz enc l v) (he : ∀ a, (enc a).length = esz) (hs : ∀ a, (enc a).all AV.scalar = true) (hb : l.length * eb ≤ 140737488355328) (heb : 1 ≤ eb) (hlim : lim ≤ h.length) :
    ∃ w x0 x1, appG true lim (h.length + 1) esz eb (h ++ .cells [] false :: .tomb :: J) (.ms esz h.length 0 0) v = some (w, h ++ x0 :: x1 :: J) ∧ ∀ K, RdC enc esz (h ++ x0 :: x1 :: K) w l := by
  by_cases hz : l.length = 0
  · have e : l = [] := List.eq_nil_of_length_eq_zero hz
    subst e
    refine ⟨.ms esz h.length 0 0, .cells [] false, .tomb, ?_, fun K => ⟨h.length, rfl, by rw [atT0]; rfl⟩⟩
    have hr : Am.rowOf (h ++ .cells [] false :: .tomb :: J) v = some [] := rowOf_sl hv _
    rw [appG_zero (sl := 0) rfl (lenOf_sl hv) hr]
  · refine ⟨.ms esz (h.length + 1) 0 l.length, .ro [], .cells (l.flatMap enc) false, ?_, fun K => ⟨h.length + 1, rfl, by rw [atT]; rfl⟩⟩
    rw [appG_ms (c := []) hz atA0 (by simp) (lenOf_sl hv) (rowOf_sl hv _) (flat_len he l) (scal_sl hs l) (by simpa using hb) heb hlim, setT0, setT]
    simp
end
theorem slice_in {l : List Int} {v : AV} (h : IsSl 1 intL l v) {i : Nat} (hi : i < l.length) : ∃ u, sliceV 1 v none (some (I i)) = some u ∧ IsSl 1 intL (l.take i) u := by
  rcases h with rfl | ⟨rfl, rfl⟩
  · refine ⟨_, ?_, slV_is⟩
    have h1 : (0 : Int) ≤ i ∧ (i : Int) ≤ l.length := by omega
    simp only [sliceV, sliceB, h1, and_self, if_true, Int.toNat_natCast, Nat.zero_mul, List.drop_zero, Nat.sub_zero, Nat.mul_one, slV, List.length_take, Nat.min_eq_left (Nat.le_of_lt hi)]
    congr 2
    clear h1
    induction l generalizing i with
    | nil => simp
    | cons a l ih =>
      cases i with
      | zero => simp
      | succ i => simp only [List.flatMap_cons, List.cons_append, List.nil_append, List.take_succ_cons, ih (by simpa using hi)]
  · simp at hi

theorem s49 {l : List Int} {v : AV} (V : IsSl 1 intL l v) (hl : l.length ≤ 1000) (n : Int) (st : Bool) : Iso E 49 [v, I n] st = some (Bo (decide (n ∈ l))) := by
  refine Iso_of (es _ _ _ _) e49 ?_
  simp only [f49]
  simp (disch := first | assumption | omega | (simp only [az]; done)) only [ru, eq_self, if_true, if_false, BEq.rfl, binI, AO.row?, splice, fillL, mmAll, loadV, storeV, zeros, Am.rowAt, Am.part, addOff, Nat.reduceAdd, Nat.reduceMul, Nat.reduceLeDiff, Nat.reduceSub, Nat.reduceLT, Int.reduceEq, Int.reduceLT, Int.reduceLE, Int.reduceGT, Int.reduceGE, Int.reduceAdd, Int.reduceSub, Int.reduceMul, Int.reduceNeg, Int.reduceToNat, reduceCtorEq, reduceIte]
  refine G_loop_ind (fun m ts h mk => ∃ i : Nat, i ≤ l.length ∧ m = l.length - i ∧ n ∉ l.take i ∧ ts.length = 18 ∧ ts.getD 0 .undef = v ∧ ts.getD 1 .undef = I n ∧ ts.getD 5 .undef = I i ∧ h = [] ∧ mk = []) ?_ _ _ _ _ ⟨0, Nat.zero_le _, rfl, by simp, rfl, rfl, rfl, rfl, rfl, rfl⟩
  rintro m ts h mk ih ⟨i, hi, rfl, hn, hl', q0, q1, q5, rfl, rfl⟩
  rw [lit_all hl']
  simp only [lit0, litS, Nat.reduceAdd, q0, q1, q5]
  simp (disch := first | assumption | omega | (simp only [az]; done)) only [ru, eq_self, if_true, if_false, BEq.rfl, binI, AO.row?, splice, fillL, mmAll, loadV, storeV, zeros, Am.rowAt, Am.part, addOff, Nat.reduceAdd, Nat.reduceMul, Nat.reduceLeDiff, Nat.reduceSub, Nat.reduceLT, Int.reduceEq, Int.reduceLT, Int.reduceLE, Int.reduceGT, Int.reduceGE, Int.reduceAdd, Int.reduceSub, Int.reduceMul, Int.reduceNeg, Int.reduceToNat, reduceCtorEq, reduceIte, lenV_sl V, elem_in V, view_sl V, scalar_sl V, cells_sl V, pure_sl V, Int.toNat_natCast]
  by_cases hlt : (i : Int) < l.length
  case pos =>
    have hi' : i < l.length := by omega
    obtain ⟨x, hx⟩ : ∃ x, x = l.getD i 0 := ⟨_, rfl⟩
    have hm : x ∈ l := by rw [hx]; exact getD_memI hi'
    by_cases hc : x = n
    · have hd : n ∈ l := hc ▸ hm
      simp (disch := first | assumption | omega | (simp only [az]; done)) only [ru, eq_self, if_true, if_false, BEq.rfl, binI, AO.row?, splice, fillL, mmAll, loadV, storeV, zeros, Am.rowAt, Am.part, addOff, Nat.reduceAdd, Nat.reduceMul, Nat.reduceLeDiff, Nat.reduceSub, Nat.reduceLT, Int.reduceEq, Int.reduceLT, Int.reduceLE, Int.reduceGT, Int.reduceGE, Int.reduceAdd, Int.reduceSub, Int.reduceMul, Int.reduceNeg, Int.reduceToNat, reduceCtorEq, reduceIte, lenV_sl V, elem_in V, view_sl V, scalar_sl V, cells_sl V, pure_sl V, Int.toNat_natCast, hlt, ← hx, hc, hd, decide_true]
    · simp (disch := first | assumption | omega | (simp only [az]; done)) only [ru, eq_self, if_true, if_false, BEq.rfl, binI, AO.row?, splice, fillL, mmAll, loadV, storeV, zeros, Am.rowAt, Am.part, addOff, Nat.reduceAdd, Nat.reduceMul, Nat.reduceLeDiff, Nat.reduceSub, Nat.reduceLT, Int.reduceEq, Int.reduceLT, Int.reduceLE, Int.reduceGT, Int.reduceGE, Int.reduceAdd, Int.reduceSub, Int.reduceMul, Int.reduceNeg, Int.reduceToNat, reduceCtorEq, reduceIte, lenV_sl V, elem_in V, view_sl V, scalar_sl V, cells_sl V, pure_sl V, Int.toNat_natCast, hlt, ← hx, hc, decide_false]
      refine ih (l.length - (i + 1)) _ _ _ (by omega) ⟨i + 1, by omega, rfl, ?_, rfl, rfl, rfl, rfl, rfl, rfl⟩
      rw [List.take_succ_eq_append_getElem hi', List.mem_append, List.mem_singleton]
      rintro (h | h)
      · exact hn h
      · rw [List.getD_eq_getElem?_getD, List.getElem?_eq_getElem hi', Option.getD_some] at hx
        exact hc (hx.trans h.symm)
  obtain rfl : i = l.length := by omega
  rw [List.take_length] at hn
  simp (disch := first | assumption | omega | (simp only [az]; done)) only [ru, eq_self, if_true, if_false, BEq.rfl, binI, AO.row?, splice, fillL, mmAll, loadV, storeV, zeros, Am.rowAt, Am.part, addOff, Nat.reduceAdd, Nat.reduceMul, Nat.reduceLeDiff, Nat.reduceSub, Nat.reduceLT, Int.reduceEq, Int.reduceLT, Int.reduceLE, Int.reduceGT, Int.reduceGE, Int.reduceAdd, Int.reduceSub, Int.reduceMul, Int.reduceNeg, Int.reduceToNat, reduceCtorEq, reduceIte, hlt, hn, decide_false]

theorem s130 {l : List Int} {v : AV} (V : IsSl 1 intL l v) (hl : l.length ≤ 1000) (n : Int) : ∃ k : Int, (∀ st, Iso E 130 [v, I n] st = some (I k)) ∧ decide (k ≥ 0) = decide (n ∈ l) := by
  refine (fun x => ?_ : (∃ r h', R E (.fn 130) [v, I n] [] 0 = some (r, h') ∧ ∃ k : Int, r = I k ∧ decide (k ≥ 0) = decide (n ∈ l)) → _) (R_of _ (es _ _ _ _) e130 ?_)
  · obtain ⟨r, h', hr, k, rfl, hk⟩ := x
    exact ⟨k, fun st => by simp only [Iso, hr, view_int], hk⟩
  simp only [f130]
  simp (disch := first | assumption | omega | (simp only [az]; done)) only [ru, eq_self, if_true, if_false, BEq.rfl, binI, AO.row?, splice, fillL, mmAll, loadV, storeV, zeros, Am.rowAt, Am.part, addOff, Nat.reduceAdd, Nat.reduceMul, Nat.reduceLeDiff, Nat.reduceSub, Nat.reduceLT, Int.reduceEq, Int.reduceLT, Int.reduceLE, Int.reduceGT, Int.reduceGE, Int.reduceAdd, Int.reduceSub, Int.reduceMul, Int.reduceNeg, Int.reduceToNat, reduceCtorEq, reduceIte, lenV_sl V]
  refine G_loop_ind (fun m ts h mk => ∃ i : Nat, i ≤ l.length ∧ m = l.length - i ∧ n ∉ l.take i ∧ ts.length = 19 ∧ ts.getD 0 .undef = v ∧ ts.getD 1 .undef = I n ∧ ts.getD 7 .undef = I l.length ∧ ts.getD 8 .undef = I i ∧ h = [] ∧ mk = []) ?_ _ _ _ _ ⟨0, Nat.zero_le _, rfl, by simp, rfl, rfl, rfl, rfl, rfl, rfl, rfl⟩
  rintro m ts h mk ih ⟨i, hi, rfl, hn, hl', q0, q1, q7, q8, rfl, rfl⟩
  rw [lit_all hl']
  simp only [lit0, litS, Nat.reduceAdd, q0, q1, q7, q8]
  simp (disch := first | assumption | omega | (simp only [az]; done)) only [ru, eq_self, if_true, if_false, BEq.rfl, binI, AO.row?, splice, fillL, mmAll, loadV, storeV, zeros, Am.rowAt, Am.part, addOff, Nat.reduceAdd, Nat.reduceMul, Nat.reduceLeDiff, Nat.reduceSub, Nat.reduceLT, Int.reduceEq, Int.reduceLT, Int.reduceLE, Int.reduceGT, Int.reduceGE, Int.reduceAdd, Int.reduceSub, Int.reduceMul, Int.reduceNeg, Int.reduceToNat, reduceCtorEq, reduceIte]
  by_cases hlt : (i : Int) < l.length
  case pos =>
    have hi' : i < l.length := by omega
    obtain ⟨x, hx⟩ : ∃ x, x = l.getD i 0 := ⟨_, rfl⟩
    have hm : x ∈ l := by rw [hx]; exact getD_memI hi'
    by_cases hc : n = x
    · have hd : n ∈ l := hc ▸ hm
      simp (disch := first | assumption | omega | (simp only [az]; done)) only [ru, eq_self, if_true, if_false, BEq.rfl, binI, AO.row?, splice, fillL, mmAll, loadV, storeV, zeros, Am.rowAt, Am.part, addOff, Nat.reduceAdd, Nat.reduceMul, Nat.reduceLeDiff, Nat.reduceSub, Nat.reduceLT, Int.reduceEq, Int.reduceLT, Int.reduceLE, Int.reduceGT, Int.reduceGE, Int.reduceAdd, Int.reduceSub, Int.reduceMul, Int.reduceNeg, Int.reduceToNat, reduceCtorEq, reduceIte, lenV_sl V, elem_in V, view_sl V, scalar_sl V, cells_sl V, pure_sl V, Int.toNat_natCast, hlt, ← hx, ← hc, decide_true]
      exact ⟨i, rfl, by simp [hd]⟩
    · simp (disch := first | assumption | omega | (simp only [az]; done)) only [ru, eq_self, if_true, if_false, BEq.rfl, binI, AO.row?, splice, fillL, mmAll, loadV, storeV, zeros, Am.rowAt, Am.part, addOff, Nat.reduceAdd, Nat.reduceMul, Nat.reduceLeDiff, Nat.reduceSub, Nat.reduceLT, Int.reduceEq, Int.reduceLT, Int.reduceLE, Int.reduceGT, Int.reduceGE, Int.reduceAdd, Int.reduceSub, Int.reduceMul, Int.reduceNeg, Int.reduceToNat, reduceCtorEq, reduceIte, lenV_sl V, elem_in V, view_sl V, scalar_sl V, cells_sl V, pure_sl V, Int.toNat_natCast, hlt, ← hx, hc, decide_false]
      refine ih (l.length - (i + 1)) _ _ _ (by omega) ⟨i + 1, by omega, rfl, ?_, rfl, rfl, rfl, rfl, rfl, rfl, rfl⟩
      rw [List.take_succ_eq_append_getElem hi', List.mem_append, List.mem_singleton]
      rintro (h | h)
      · exact hn h
      · rw [List.getD_eq_getElem?_getD, List.getElem?_eq_getElem hi', Option.getD_some] at hx
        exact hc (h.trans hx.symm)
  obtain rfl : i = l.length := by omega
  rw [List.take_length] at hn
  simp (disch := first | assumption | omega | (simp only [az]; done)) only [ru, eq_self, if_true, if_false, BEq.rfl, binI, AO.row?, splice, fillL, mmAll, loadV, storeV, zeros, Am.rowAt, Am.part, addOff, Nat.reduceAdd, Nat.reduceMul, Nat.reduceLeDiff, Nat.reduceSub, Nat.reduceLT, Int.reduceEq, Int.reduceLT, Int.reduceLE, Int.reduceGT, Int.reduceGE, Int.reduceAdd, Int.reduceSub, Int.reduceMul, Int.reduceNeg, Int.reduceToNat, reduceCtorEq, reduceIte, hlt]
  exact ⟨-1, rfl, by simp [hn]⟩
theorem s122 {l : List Int} {v : AV} (V : IsSl 1 intL l v) (hl : l.length ≤ 1000) (n : Int) (st : Bool) : Iso E 122 [v, I n] st = some (Bo (decide (n ∈ l))) := by
  obtain ⟨k, hr', hk⟩ := s130 V hl n
  refine Iso_of (es _ _ _ _) e122 ?_
  simp only [f122]
  simp (disch := first | assumption | omega | (simp only [az]; done)) only [ru, eq_self, if_true, if_false, BEq.rfl, binI, AO.row?, splice, fillL, mmAll, loadV, storeV, zeros, Am.rowAt, Am.part, addOff, Nat.reduceAdd, Nat.reduceMul, Nat.reduceLeDiff, Nat.reduceSub, Nat.reduceLT, Int.reduceEq, Int.reduceLT, Int.reduceLE, Int.reduceGT, Int.reduceGE, Int.reduceAdd, Int.reduceSub, Int.reduceMul, Int.reduceNeg, Int.reduceToNat, reduceCtorEq, reduceIte, lenV_sl V, elem_in V, view_sl V, scalar_sl V, cells_sl V, pure_sl V, Int.toNat_natCast, hr']
  rw [hk]
end Go.Proofs.Ytdmhbefdidmliaa.S

/-
Is a list a crew? What a crew costs and lifts, on both sides.
-/
namespace Go.Proofs.Ytdmhbefdidmliaa.S
open Go Go.Am Go.Proofs.Ytdmhbefdidmliaa.T
set_option maxRecDepth 100000
set_option linter.unusedSimpArgs false
set_option linter.unusedVariables false

def crI (s : Sea) (l : List Int) (i : Nat) : Bool := inR (l.getD i 0) 0 (s.bo.length - 1) && !decide (l.getD i 0 ∈ l.take i)
def crB (s : Sea) (l : List Int) : Bool := decide (l.length = s.pl.length) && (List.range l.length).all (crI s l)
theorem crB_iff {s : Sea} {l : List Int} : crB s l = true ↔ isCr s l := by
  simp only [crB, Bool.and_eq_true, decide_eq_true_eq, List.all_eq_true, List.mem_range, crI, inR_iff, Bool.not_eq_true', decide_eq_false_iff_not, isCr, okC]
  constructor
  · rintro ⟨h1, h2⟩
    refine ⟨h1, fun x hx => ?_, ?_⟩
    · obtain ⟨i, hi, rfl⟩ := mem_getD (d := 0) hx
      have := (h2 i hi).1; omega
    · rw [List.Nodup, List.pairwise_iff_getElem]
      intro i j hi hj hij e
      refine (h2 j hj).2 ?_
      rw [List.getD_eq_getElem?_getD, List.getElem?_eq_getElem hj, Option.getD_some, ← e]
      exact List.mem_iff_getElem.2 ⟨i, by rw [List.length_take]; omega, by rw [List.getElem_take]⟩
  · rintro ⟨h1, h2, h3⟩
    refine ⟨h1, fun i hi => ⟨?_, fun hm => ?_⟩⟩
    · have := h2 _ (getD_memI hi); omega
    · obtain ⟨j, hj, e⟩ := List.mem_iff_getElem.1 hm
      rw [List.length_take] at hj
      rw [List.getElem_take, List.getD_eq_getElem?_getD, List.getElem?_eq_getElem hi, Option.getD_some] at e
      have := nodup_inj h3 (by omega) hi e
      omega
section
variable {s : Sea} {p b : AV} {l : List Int} {v : AV}

theorem s109 (H : SeaOk s p b) (V : IsSl 1 intL l v) (hl : l.length ≤ 41) (st : Bool) : Iso E 109 [seaV s p b, v] st = some (Bo (crB s l)) := by
  have sp := H.sp; have sb := H.sb
  refine Iso_of (es _ _ _ _) e109 ?_
  simp only [f109, seaV]
  by_cases h1 : l.length = s.pl.length
  case neg =>
    have e : ¬ (l.length : Int) = s.pl.length := by omega
    have ev : crB s l = false := by simp [crB, h1]
    simp (disch := first | assumption | omega | (simp only [az]; done)) only [ru, eq_self, if_true, if_false, BEq.rfl, binI, AO.row?, splice, fillL, mmAll, loadV, storeV, zeros, Am.rowAt, Am.part, addOff, Nat.reduceAdd, Nat.reduceMul, Nat.reduceLeDiff, Nat.reduceSub, Nat.reduceLT, Int.reduceEq, Int.reduceLT, Int.reduceLE, Int.reduceGT, Int.reduceGE, Int.reduceAdd, Int.reduceSub, Int.reduceMul, Int.reduceNeg, Int.reduceToNat, reduceCtorEq, reduceIte, lenV_sl H.p, lenV_sl H.b, elem_sp H.p, elem_bt H.b, view_sl H.p, view_sl H.b, scalar_sl H.p, scalar_sl H.b, cells_sl H.p, cells_sl H.b, pure_sl H.p, pure_sl H.b, Int.toNat_natCast, lenV_sl V, elem_in V, view_sl V, scalar_sl V, cells_sl V, pure_sl V, Int.toNat_natCast, e, ev, decide_false, Bool.not_false]
  have e : (l.length : Int) = s.pl.length := by omega
  have ev : crB s l = (List.range l.length).all (crI s l) := by simp [crB, h1]
  rw [ev]
  simp (disch := first | assumption | omega | (simp only [az]; done)) only [ru, eq_self, if_true, if_false, BEq.rfl, binI, AO.row?, splice, fillL, mmAll, loadV, storeV, zeros, Am.rowAt, Am.part, addOff, Nat.reduceAdd, Nat.reduceMul, Nat.reduceLeDiff, Nat.reduceSub, Nat.reduceLT, Int.reduceEq, Int.reduceLT, Int.reduceLE, Int.reduceGT, Int.reduceGE, Int.reduceAdd, Int.reduceSub, Int.reduceMul, Int.reduceNeg, Int.reduceToNat, reduceCtorEq, reduceIte, lenV_sl H.p, lenV_sl H.b, elem_sp H.p, elem_bt H.b, view_sl H.p, view_sl H.b, scalar_sl H.p, scalar_sl H.b, cells_sl H.p, cells_sl H.b, pure_sl H.p, pure_sl H.b, Int.toNat_natCast, lenV_sl V, elem_in V, view_sl V, scalar_sl V, cells_sl V, pure_sl V, Int.toNat_natCast, e, decide_true, Bool.not_true]
  refine G_loop_ind (fun m ts h mk => ∃ i : Nat, i ≤ l.length ∧ m = l.length - i ∧ (List.range i).all (crI s l) = true ∧ ts.length = 35 ∧ ts.getD 1 .undef = v ∧ ts.getD 2 .undef = .ptr 0 0 ∧ ts.getD 13 .undef = v ∧ ts.getD 14 .undef = I s.pl.length ∧ ts.getD 15 .undef = I i ∧ h = [.cells [I s.w.lo, I s.w.hi, p, b] false] ∧ mk = []) ?_ _ _ _ _
    ⟨0, Nat.zero_le _, rfl, rfl, rfl, rfl, rfl, rfl, rfl, rfl, rfl, rfl⟩
  rintro m ts h mk ih ⟨i, hi, rfl, hall, hl', q1, q2, q13, q14, q15, rfl, rfl⟩
  rw [lit_all hl']
  simp only [lit0, litS, Nat.reduceAdd, q1, q2, q13, q14, q15]
  simp (disch := first | assumption | omega | (simp only [az]; done)) only [ru, eq_self, if_true, if_false, BEq.rfl, binI, AO.row?, splice, fillL, mmAll, loadV, storeV, zeros, Am.rowAt, Am.part, addOff, Nat.reduceAdd, Nat.reduceMul, Nat.reduceLeDiff, Nat.reduceSub, Nat.reduceLT, Int.reduceEq, Int.reduceLT, Int.reduceLE, Int.reduceGT, Int.reduceGE, Int.reduceAdd, Int.reduceSub, Int.reduceMul, Int.reduceNeg, Int.reduceToNat, reduceCtorEq, reduceIte]
  by_cases hlt : (i : Int) < s.pl.length
  case pos =>
    have hi' : i < l.length := by omega
    have hlt2 : (i : Int) < l.length := by omega
    obtain ⟨u, hu, U⟩ := slice_in V hi'
    obtain ⟨x, hx⟩ : ∃ x, x = l.getD i 0 := ⟨_, rfl⟩
    have g := fun st => s122 U (by rw [List.length_take]; omega) x st
    cases hc : inR x 0 (s.bo.length - 1)
    · have hf : crI s l i = false := by simp only [crI, ← hx, hc, Bool.false_and]
      have ev := range_not (N := l.length) hi' hf
      simp (disch := first | assumption | omega | (simp only [az]; done)) only [ru, eq_self, if_true, if_false, BEq.rfl, binI, AO.row?, splice, fillL, mmAll, loadV, storeV, zeros, Am.rowAt, Am.part, addOff, Nat.reduceAdd, Nat.reduceMul, Nat.reduceLeDiff, Nat.reduceSub, Nat.reduceLT, Int.reduceEq, Int.reduceLT, Int.reduceLE, Int.reduceGT, Int.reduceGE, Int.reduceAdd, Int.reduceSub, Int.reduceMul, Int.reduceNeg, Int.reduceToNat, reduceCtorEq, reduceIte, lenV_sl H.p, lenV_sl H.b, elem_sp H.p, elem_bt H.b, view_sl H.p, view_sl H.b, scalar_sl H.p, scalar_sl H.b, cells_sl H.p, cells_sl H.b, pure_sl H.p, pure_sl H.b, Int.toNat_natCast, lenV_sl V, elem_in V, view_sl V, scalar_sl V, cells_sl V, pure_sl V, Int.toNat_natCast, hlt, hlt2, ← hx, s118, hc, gUn, ev, Bool.not_false]
    by_cases hd : x ∈ l.take i
    · have hf : crI s l i = false := by simp only [crI, ← hx, hc, hd, decide_true, Bool.not_true, Bool.and_false]
      have ev := range_not (N := l.length) hi' hf
      simp (disch := first | assumption | omega | (simp only [az]; done)) only [ru, eq_self, if_true, if_false, BEq.rfl, binI, AO.row?, splice, fillL, mmAll, loadV, storeV, zeros, Am.rowAt, Am.part, addOff, Nat.reduceAdd, Nat.reduceMul, Nat.reduceLeDiff, Nat.reduceSub, Nat.reduceLT, Int.reduceEq, Int.reduceLT, Int.reduceLE, Int.reduceGT, Int.reduceGE, Int.reduceAdd, Int.reduceSub, Int.reduceMul, Int.reduceNeg, Int.reduceToNat, reduceCtorEq, reduceIte, lenV_sl H.p, lenV_sl H.b, elem_sp H.p, elem_bt H.b, view_sl H.p, view_sl H.b, scalar_sl H.p, scalar_sl H.b, cells_sl H.p, cells_sl H.b, pure_sl H.p, pure_sl H.b, Int.toNat_natCast, lenV_sl V, elem_in V, view_sl V, scalar_sl V, cells_sl V, pure_sl V, Int.toNat_natCast, hlt, hlt2, ← hx, s118, hc, hu, view_sl U, g, hd, decide_true, ev, Bool.not_true]
    · have ht : crI s l i = true := by simp only [crI, ← hx, hc, hd, decide_false, Bool.not_false, Bool.and_true]
      simp (disch := first | assumption | omega | (simp only [az]; done)) only [ru, eq_self, if_true, if_false, BEq.rfl, binI, AO.row?, splice, fillL, mmAll, loadV, storeV, zeros, Am.rowAt, Am.part, addOff, Nat.reduceAdd, Nat.reduceMul, Nat.reduceLeDiff, Nat.reduceSub, Nat.reduceLT, Int.reduceEq, Int.reduceLT, Int.reduceLE, Int.reduceGT, Int.reduceGE, Int.reduceAdd, Int.reduceSub, Int.reduceMul, Int.reduceNeg, Int.reduceToNat, reduceCtorEq, reduceIte, lenV_sl H.p, lenV_sl H.b, elem_sp H.p, elem_bt H.b, view_sl H.p, view_sl H.b, scalar_sl H.p, scalar_sl H.b, cells_sl H.p, cells_sl H.b, pure_sl H.p, pure_sl H.b, Int.toNat_natCast, lenV_sl V, elem_in V, view_sl V, scalar_sl V, cells_sl V, pure_sl V, Int.toNat_natCast, hlt, hlt2, ← hx, s118, hc, hu, view_sl U, g, hd, decide_false, Bool.not_true]
      exact ih (l.length - (i + 1)) _ _ _ (by omega) ⟨i + 1, by omega, rfl, range_all_succ hall ht, rfl, rfl, rfl, rfl, rfl, rfl, rfl, rfl⟩
  obtain rfl : i = l.length := by omega
  simp (disch := first | assumption | omega | (simp only [az]; done)) only [ru, eq_self, if_true, if_false, BEq.rfl, binI, AO.row?, splice, fillL, mmAll, loadV, storeV, zeros, Am.rowAt, Am.part, addOff, Nat.reduceAdd, Nat.reduceMul, Nat.reduceLeDiff, Nat.reduceSub, Nat.reduceLT, Int.reduceEq, Int.reduceLT, Int.reduceLE, Int.reduceGT, Int.reduceGE, Int.reduceAdd, Int.reduceSub, Int.reduceMul, Int.reduceNeg, Int.reduceToNat, reduceCtorEq, reduceIte, hlt, hall]

set_option maxHeartbeats 1000000 in
theorem s26 (H : SeaOk s p b) (V : IsSl 1 intL l v) (hl : l.length ≤ 41) (st : Bool) : Iso E 26 [seaV s p b, v] st = some (Bo (crB s l)) := by
  have sp := H.sp; have sb := H.sb
  refine Iso_of (es _ _ _ _) e26 ?_
  simp only [f26, seaV]
  by_cases h1 : l.length = s.pl.length
  case neg =>
    have e : ¬ (l.length : Int) = s.pl.length := by omega
    have ev : crB s l = false := by simp [crB, h1]
    simp (disch := first | assumption | omega | (simp only [az]; done)) only [ru, eq_self, if_true, if_false, BEq.rfl, binI, AO.row?, splice, fillL, mmAll, loadV, storeV, zeros, Am.rowAt, Am.part, addOff, Nat.reduceAdd, Nat.reduceMul, Nat.reduceLeDiff, Nat.reduceSub, Nat.reduceLT, Int.reduceEq, Int.reduceLT, Int.reduceLE, Int.reduceGT, Int.reduceGE, Int.reduceAdd, Int.reduceSub, Int.reduceMul, Int.reduceNeg, Int.reduceToNat, reduceCtorEq, reduceIte, lenV_sl H.p, lenV_sl H.b, elem_sp H.p, elem_bt H.b, view_sl H.p, view_sl H.b, scalar_sl H.p, scalar_sl H.b, cells_sl H.p, cells_sl H.b, pure_sl H.p, pure_sl H.b, Int.toNat_natCast, lenV_sl V, elem_in V, view_sl V, scalar_sl V, cells_sl V, pure_sl V, Int.toNat_natCast, e, ev, decide_false, Bool.not_false]
  have e : (l.length : Int) = s.pl.length := by omega
  have ev : crB s l = (List.range l.length).all (crI s l) := by simp [crB, h1]
  rw [ev]
  simp (disch := first | assumption | omega | (simp only [az]; done)) only [ru, eq_self, if_true, if_false, BEq.rfl, binI, AO.row?, splice, fillL, mmAll, loadV, storeV, zeros, Am.rowAt, Am.part, addOff, Nat.reduceAdd, Nat.reduceMul, Nat.reduceLeDiff, Nat.reduceSub, Nat.reduceLT, Int.reduceEq, Int.reduceLT, Int.reduceLE, Int.reduceGT, Int.reduceGE, Int.reduceAdd, Int.reduceSub, Int.reduceMul, Int.reduceNeg, Int.reduceToNat, reduceCtorEq, reduceIte, lenV_sl H.p, lenV_sl H.b, elem_sp H.p, elem_bt H.b, view_sl H.p, view_sl H.b, scalar_sl H.p, scalar_sl H.b, cells_sl H.p, cells_sl H.b, pure_sl H.p, pure_sl H.b, Int.toNat_natCast, lenV_sl V, elem_in V, view_sl V, scalar_sl V, cells_sl V, pure_sl V, Int.toNat_natCast, e, decide_true, Bool.not_true]
  refine G_loop_ind (fun m ts h mk => ∃ i : Nat, i ≤ l.length ∧ m = l.length - i ∧ (List.range i).all (crI s l) = true ∧ ts.length = 37 ∧ ts.getD 1 .undef = v ∧ ts.getD 2 .undef = .ptr 0 0 ∧ ts.getD 5 .undef = I i ∧ h[0]? = some (.cells [I s.w.lo, I s.w.hi, p, b] false) ∧ mk = []) ?_ _ _ _ _
    ⟨0, Nat.zero_le _, rfl, rfl, rfl, rfl, rfl, rfl, rfl, rfl⟩
  rintro m ts h mk ih ⟨i, hi, rfl, hall, hl', q1, q2, q5, h0, rfl⟩
  rw [lit_all hl']
  simp only [lit0, litS, Nat.reduceAdd, q1, q2, q5]
  simp (disch := first | assumption | omega | (simp only [az]; done)) only [ru, eq_self, if_true, if_false, BEq.rfl, binI, AO.row?, splice, fillL, mmAll, loadV, storeV, zeros, Am.rowAt, Am.part, addOff, Nat.reduceAdd, Nat.reduceMul, Nat.reduceLeDiff, Nat.reduceSub, Nat.reduceLT, Int.reduceEq, Int.reduceLT, Int.reduceLE, Int.reduceGT, Int.reduceGE, Int.reduceAdd, Int.reduceSub, Int.reduceMul, Int.reduceNeg, Int.reduceToNat, reduceCtorEq, reduceIte, lenV_sl V, elem_in V, view_sl V, scalar_sl V, cells_sl V, pure_sl V, Int.toNat_natCast]
  by_cases hlt : (i : Int) < l.length
  case pos =>
    have hi' : i < l.length := by omega
    obtain ⟨u, hu, U⟩ := slice_in V hi'
    obtain ⟨x, hx⟩ : ∃ x, x = l.getD i 0 := ⟨_, rfl⟩
    have n0 := (List.getElem?_eq_some_iff.1 h0).1
    have tl : (l.take i).length ≤ 41 := by rw [List.length_take]; omega
    obtain ⟨w, x0, x1, A, RD⟩ := cpyG (eb := 8) (lim := 0) (J := []) (h := h) U intE intSc (by omega) (by omega) (Nat.zero_le _)
    have rv := fun st => (RD []).view intE intIv (st := st) (k := 7)
    have g := fun st => s49 (slV_is (l := l.take i)) (by omega) x st
    have g47 := fun st => s47 H x st
    simp only [seaV] at g47
    obtain ⟨cw, cs, cl⟩ := (RD []).sc
    cases hc : inR x 0 (s.bo.length - 1)
    · have hf : crI s l i = false := by simp only [crI, ← hx, hc, Bool.false_and]
      have ev := range_not (N := l.length) hi' hf
      simp (disch := first | assumption | omega | (simp only [az]; done)) only [ru, eq_self, if_true, if_false, BEq.rfl, binI, AO.row?, splice, fillL, mmAll, loadV, storeV, zeros, Am.rowAt, Am.part, addOff, Nat.reduceAdd, Nat.reduceMul, Nat.reduceLeDiff, Nat.reduceSub, Nat.reduceLT, Int.reduceEq, Int.reduceLT, Int.reduceLE, Int.reduceGT, Int.reduceGE, Int.reduceAdd, Int.reduceSub, Int.reduceMul, Int.reduceNeg, Int.reduceToNat, reduceCtorEq, reduceIte, lenV_sl H.p, lenV_sl H.b, elem_sp H.p, elem_bt H.b, view_sl H.p, view_sl H.b, scalar_sl H.p, scalar_sl H.b, cells_sl H.p, cells_sl H.b, pure_sl H.p, pure_sl H.b, Int.toNat_natCast, lenV_sl V, elem_in V, view_sl V, scalar_sl V, cells_sl V, pure_sl V, Int.toNat_natCast, hlt, ← hx, h0, n0, at_ap, g47, hc, gUn, ev, Bool.not_false]
    by_cases hd : x ∈ l.take i
    · have hf : crI s l i = false := by simp only [crI, ← hx, hc, hd, decide_true, Bool.not_true, Bool.and_false]
      have ev := range_not (N := l.length) hi' hf
      simp (disch := first | assumption | omega | (simp only [az]; done)) only [ru, eq_self, if_true, if_false, BEq.rfl, binI, AO.row?, splice, fillL, mmAll, loadV, storeV, zeros, Am.rowAt, Am.part, addOff, Nat.reduceAdd, Nat.reduceMul, Nat.reduceLeDiff, Nat.reduceSub, Nat.reduceLT, Int.reduceEq, Int.reduceLT, Int.reduceLE, Int.reduceGT, Int.reduceGE, Int.reduceAdd, Int.reduceSub, Int.reduceMul, Int.reduceNeg, Int.reduceToNat, reduceCtorEq, reduceIte, lenV_sl H.p, lenV_sl H.b, elem_sp H.p, elem_bt H.b, view_sl H.p, view_sl H.b, scalar_sl H.p, scalar_sl H.b, cells_sl H.p, cells_sl H.b, pure_sl H.p, pure_sl H.b, Int.toNat_natCast, lenV_sl V, elem_in V, view_sl V, scalar_sl V, cells_sl V, pure_sl V, Int.toNat_natCast, hlt, ← hx, h0, n0, at_ap, g47, hc, gUn, Bool.not_true, GO_mapp, unhN, unhC, setT, setT0, getT, getT0, atT, atT0, hu, A, rv, g, hd, decide_true, ev]
    · have ht : crI s l i = true := by simp only [crI, ← hx, hc, hd, decide_false, Bool.not_false, Bool.and_true]
      simp (disch := first | assumption | omega | (simp only [az]; done)) only [ru, eq_self, if_true, if_false, BEq.rfl, binI, AO.row?, splice, fillL, mmAll, loadV, storeV, zeros, Am.rowAt, Am.part, addOff, Nat.reduceAdd, Nat.reduceMul, Nat.reduceLeDiff, Nat.reduceSub, Nat.reduceLT, Int.reduceEq, Int.reduceLT, Int.reduceLE, Int.reduceGT, Int.reduceGE, Int.reduceAdd, Int.reduceSub, Int.reduceMul, Int.reduceNeg, Int.reduceToNat, reduceCtorEq, reduceIte, lenV_sl H.p, lenV_sl H.b, elem_sp H.p, elem_bt H.b, view_sl H.p, view_sl H.b, scalar_sl H.p, scalar_sl H.b, cells_sl H.p, cells_sl H.b, pure_sl H.p, pure_sl H.b, Int.toNat_natCast, lenV_sl V, elem_in V, view_sl V, scalar_sl V, cells_sl V, pure_sl V, Int.toNat_natCast, hlt, ← hx, h0, n0, at_ap, g47, hc, gUn, Bool.not_true, GO_mapp, unhN, unhC, setT, setT0, getT, getT0, atT, atT0, hu, A, rv, g, hd, decide_false]
      exact ih (l.length - (i + 1)) _ _ _ (by omega) ⟨i + 1, by omega, rfl, range_all_succ hall ht, rfl, rfl, rfl, rfl, by rw [at_ap n0]; exact h0, rfl⟩
  obtain rfl : i = l.length := by omega
  simp (disch := first | assumption | omega | (simp only [az]; done)) only [ru, eq_self, if_true, if_false, BEq.rfl, binI, AO.row?, splice, fillL, mmAll, loadV, storeV, zeros, Am.rowAt, Am.part, addOff, Nat.reduceAdd, Nat.reduceMul, Nat.reduceLeDiff, Nat.reduceSub, Nat.reduceLT, Int.reduceEq, Int.reduceLT, Int.reduceLE, Int.reduceGT, Int.reduceGE, Int.reduceAdd, Int.reduceSub, Int.reduceMul, Int.reduceNeg, Int.reduceToNat, reduceCtorEq, reduceIte, hlt, hall]

theorem s93 (H : SeaOk s p b) (V : IsSl 1 intL l v) (hl : l.length ≤ 41) (st : Bool) : Iso E 93 [seaV s p b, v] st = some (I (aE s.valid (crB s l) 1)) := by
  have g1 := fun st => s53 H st
  have g2 := fun st => s26 H V hl st
  have g3 := fun q st => s89 H q st
  refine Iso_of (es _ _ _ _) e93 ?_
  simp only [f93, seaV] at g1 g2 g3 ⊢
  cases hv : s.valid
  · simp (disch := first | assumption | omega | (simp only [az]; done)) only [ru, eq_self, if_true, if_false, BEq.rfl, binI, AO.row?, splice, fillL, mmAll, loadV, storeV, zeros, Am.rowAt, Am.part, addOff, Nat.reduceAdd, Nat.reduceMul, Nat.reduceLeDiff, Nat.reduceSub, Nat.reduceLT, Int.reduceEq, Int.reduceLT, Int.reduceLE, Int.reduceGT, Int.reduceGE, Int.reduceAdd, Int.reduceSub, Int.reduceMul, Int.reduceNeg, Int.reduceToNat, reduceCtorEq, reduceIte, lenV_sl H.p, lenV_sl H.b, elem_sp H.p, elem_bt H.b, view_sl H.p, view_sl H.b, scalar_sl H.p, scalar_sl H.b, cells_sl H.p, cells_sl H.b, pure_sl H.p, pure_sl H.b, Int.toNat_natCast, lenV_sl V, elem_in V, view_sl V, scalar_sl V, cells_sl V, pure_sl V, Int.toNat_natCast, g1, hv, vE, aE, Bool.false_eq_true]
  · simp (disch := first | assumption | omega | (simp only [az]; done)) only [ru, eq_self, if_true, if_false, BEq.rfl, binI, AO.row?, splice, fillL, mmAll, loadV, storeV, zeros, Am.rowAt, Am.part, addOff, Nat.reduceAdd, Nat.reduceMul, Nat.reduceLeDiff, Nat.reduceSub, Nat.reduceLT, Int.reduceEq, Int.reduceLT, Int.reduceLE, Int.reduceGT, Int.reduceGE, Int.reduceAdd, Int.reduceSub, Int.reduceMul, Int.reduceNeg, Int.reduceToNat, reduceCtorEq, reduceIte, lenV_sl H.p, lenV_sl H.b, elem_sp H.p, elem_bt H.b, view_sl H.p, view_sl H.b, scalar_sl H.p, scalar_sl H.b, cells_sl H.p, cells_sl H.b, pure_sl H.p, pure_sl H.b, Int.toNat_natCast, lenV_sl V, elem_in V, view_sl V, scalar_sl V, cells_sl V, pure_sl V, Int.toNat_natCast, g1, g2, g3, hv, vE, aE]
theorem s78 (H : SeaOk s p b) (V : IsSl 1 intL l v) (hl : l.length ≤ 41) (st : Bool) : Iso E 78 [seaV s p b, v] st = some (I (aE s.valid (crB s l) 1)) := by
  have g1 := fun st => s52 H st
  have g2 := fun st => s109 H V hl st
  refine Iso_of (es _ _ _ _) e78 ?_
  simp only [f78, seaV] at g1 g2 ⊢
  obtain ⟨q, hq⟩ : ∃ q, q = crB s l := ⟨_, rfl⟩
  simp only [← hq] at g2 ⊢
  cases hv : s.valid
  · simp (disch := first | assumption | omega | (simp only [az]; done)) only [ru, eq_self, if_true, if_false, BEq.rfl, binI, AO.row?, splice, fillL, mmAll, loadV, storeV, zeros, Am.rowAt, Am.part, addOff, Nat.reduceAdd, Nat.reduceMul, Nat.reduceLeDiff, Nat.reduceSub, Nat.reduceLT, Int.reduceEq, Int.reduceLT, Int.reduceLE, Int.reduceGT, Int.reduceGE, Int.reduceAdd, Int.reduceSub, Int.reduceMul, Int.reduceNeg, Int.reduceToNat, reduceCtorEq, reduceIte, lenV_sl H.p, lenV_sl H.b, elem_sp H.p, elem_bt H.b, view_sl H.p, view_sl H.b, scalar_sl H.p, scalar_sl H.b, cells_sl H.p, cells_sl H.b, pure_sl H.p, pure_sl H.b, Int.toNat_natCast, lenV_sl V, elem_in V, view_sl V, scalar_sl V, cells_sl V, pure_sl V, Int.toNat_natCast, g1, hv, vE, aE, gUn, Bool.false_eq_true]
  · cases q <;> simp (disch := first | assumption | omega | (simp only [az]; done)) only [ru, eq_self, if_true, if_false, BEq.rfl, binI, AO.row?, splice, fillL, mmAll, loadV, storeV, zeros, Am.rowAt, Am.part, addOff, Nat.reduceAdd, Nat.reduceMul, Nat.reduceLeDiff, Nat.reduceSub, Nat.reduceLT, Int.reduceEq, Int.reduceLT, Int.reduceLE, Int.reduceGT, Int.reduceGE, Int.reduceAdd, Int.reduceSub, Int.reduceMul, Int.reduceNeg, Int.reduceToNat, reduceCtorEq, reduceIte, lenV_sl H.p, lenV_sl H.b, elem_sp H.p, elem_bt H.b, view_sl H.p, view_sl H.b, scalar_sl H.p, scalar_sl H.b, cells_sl H.p, cells_sl H.b, pure_sl H.p, pure_sl H.b, Int.toNat_natCast, lenV_sl V, elem_in V, view_sl V, scalar_sl V, cells_sl V, pure_sl V, Int.toNat_natCast, g1, g2, hv, vE, aE, Bool.not_false, Bool.not_true, Bool.false_eq_true]

/-! of a crew -/
theorem s123 (H : SeaOk s p b) (K : SeaG s) (V : IsSl 1 intL l v) (hl : l.length ≤ 41) (hc : ∀ i, i < l.length → 0 ≤ l.getD i 0 ∧ l.getD i 0 < s.bo.length) (st : Bool) : Iso E 123 [seaV s p b, v] st = some (I (cst s l)) := by
  refine Iso_of (es _ _ _ _) e123 ?_
  simp only [f123, seaV]
  simp (disch := first | assumption | omega | (simp only [az]; done)) only [ru, eq_self, if_true, if_false, BEq.rfl, binI, AO.row?, splice, fillL, mmAll, loadV, storeV, zeros, Am.rowAt, Am.part, addOff, Nat.reduceAdd, Nat.reduceMul, Nat.reduceLeDiff, Nat.reduceSub, Nat.reduceLT, Int.reduceEq, Int.reduceLT, Int.reduceLE, Int.reduceGT, Int.reduceGE, Int.reduceAdd, Int.reduceSub, Int.reduceMul, Int.reduceNeg, Int.reduceToNat, reduceCtorEq, reduceIte, lenV_sl H.p, lenV_sl H.b, elem_sp H.p, elem_bt H.b, view_sl H.p, view_sl H.b, scalar_sl H.p, scalar_sl H.b, cells_sl H.p, cells_sl H.b, pure_sl H.p, pure_sl H.b, Int.toNat_natCast, lenV_sl V, elem_in V, view_sl V, scalar_sl V, cells_sl V, pure_sl V, Int.toNat_natCast]
  refine G_loop_ind (fun m ts h mk => ∃ i : Nat, i ≤ l.length ∧ m = l.length - i ∧ ts.length = 25 ∧ ts.getD 2 .undef = .ptr 0 0 ∧ ts.getD 5 .undef = I (cstU s l i) ∧ ts.getD 8 .undef = v ∧ ts.getD 9 .undef = I l.length ∧ ts.getD 10 .undef = I i ∧ h = [.cells [I s.w.lo, I s.w.hi, p, b] false] ∧ mk = []) ?_ _ _ _ _
    ⟨0, Nat.zero_le _, rfl, rfl, rfl, rfl, rfl, rfl, rfl, rfl, rfl⟩
  rintro m ts h mk ih ⟨i, hi, rfl, hl', q2, q5, q8, q9, q10, rfl, rfl⟩
  rw [lit_all hl']
  simp only [lit0, litS, Nat.reduceAdd, q2, q5, q8, q9, q10]
  simp (disch := first | assumption | omega | (simp only [az]; done)) only [ru, eq_self, if_true, if_false, BEq.rfl, binI, AO.row?, splice, fillL, mmAll, loadV, storeV, zeros, Am.rowAt, Am.part, addOff, Nat.reduceAdd, Nat.reduceMul, Nat.reduceLeDiff, Nat.reduceSub, Nat.reduceLT, Int.reduceEq, Int.reduceLT, Int.reduceLE, Int.reduceGT, Int.reduceGE, Int.reduceAdd, Int.reduceSub, Int.reduceMul, Int.reduceNeg, Int.reduceToNat, reduceCtorEq, reduceIte]
  by_cases hlt : (i : Int) < l.length
  case pos =>
    have hi' : i < l.length := by omega
    have hx := hc i hi'
    have c1 := cstU_le K (l := l) (k := i)
    have c2 := boat_ok K (l.getD i 0)
    have eb : s.bo.getD (l.getD i 0).toNat default = boat s (l.getD i 0) := rfl
    have eu : cstU s l (i + 1) = cstU s l i + (boat s (l.getD i 0)).p := rfl
    obtain ⟨x, hx'⟩ : ∃ x, x = l.getD i 0 := ⟨_, rfl⟩
    rw [← hx'] at hx c2 eb eu
    simp (disch := first | assumption | omega | (simp only [az]; done)) only [ru, eq_self, if_true, if_false, BEq.rfl, binI, AO.row?, splice, fillL, mmAll, loadV, storeV, zeros, Am.rowAt, Am.part, addOff, Nat.reduceAdd, Nat.reduceMul, Nat.reduceLeDiff, Nat.reduceSub, Nat.reduceLT, Int.reduceEq, Int.reduceLT, Int.reduceLE, Int.reduceGT, Int.reduceGE, Int.reduceAdd, Int.reduceSub, Int.reduceMul, Int.reduceNeg, Int.reduceToNat, reduceCtorEq, reduceIte, lenV_sl H.p, lenV_sl H.b, elem_sp H.p, elem_bt H.b, view_sl H.p, view_sl H.b, scalar_sl H.p, scalar_sl H.b, cells_sl H.p, cells_sl H.b, pure_sl H.p, pure_sl H.b, Int.toNat_natCast, lenV_sl V, elem_in V, view_sl V, scalar_sl V, cells_sl V, pure_sl V, Int.toNat_natCast, hlt, ← hx', hx.1, hx.2, eb]
    exact ih (l.length - (i + 1)) _ _ _ (by omega) ⟨i + 1, by omega, rfl, rfl, rfl, by rw [eu]; rfl, rfl, rfl, rfl, rfl, rfl⟩
  obtain rfl : i = l.length := by omega
  simp (disch := first | assumption | omega | (simp only [az]; done)) only [ru, eq_self, if_true, if_false, BEq.rfl, binI, AO.row?, splice, fillL, mmAll, loadV, storeV, zeros, Am.rowAt, Am.part, addOff, Nat.reduceAdd, Nat.reduceMul, Nat.reduceLeDiff, Nat.reduceSub, Nat.reduceLT, Int.reduceEq, Int.reduceLT, Int.reduceLE, Int.reduceGT, Int.reduceGE, Int.reduceAdd, Int.reduceSub, Int.reduceMul, Int.reduceNeg, Int.reduceToNat, reduceCtorEq, reduceIte, hlt]
theorem s36 (H : SeaOk s p b) (K : SeaG s) (V : IsSl 1 intL l v) (hl : l.length ≤ 41) (hc : ∀ i, i < l.length → 0 ≤ l.getD i 0 ∧ l.getD i 0 < s.bo.length) (st : Bool) : Iso E 36 [seaV s p b, v] st = some (I (cst s l)) := by
  refine Iso_of (es _ _ _ _) e36 ?_
  simp only [f36, seaV]
  simp (disch := first | assumption | omega | (simp only [az]; done)) only [ru, eq_self, if_true, if_false, BEq.rfl, binI, AO.row?, splice, fillL, mmAll, loadV, storeV, zeros, Am.rowAt, Am.part, addOff, Nat.reduceAdd, Nat.reduceMul, Nat.reduceLeDiff, Nat.reduceSub, Nat.reduceLT, Int.reduceEq, Int.reduceLT, Int.reduceLE, Int.reduceGT, Int.reduceGE, Int.reduceAdd, Int.reduceSub, Int.reduceMul, Int.reduceNeg, Int.reduceToNat, reduceCtorEq, reduceIte, lenV_sl H.p, lenV_sl H.b, elem_sp H.p, elem_bt H.b, view_sl H.p, view_sl H.b, scalar_sl H.p, scalar_sl H.b, cells_sl H.p, cells_sl H.b, pure_sl H.p, pure_sl H.b, Int.toNat_natCast, lenV_sl V, elem_in V, view_sl V, scalar_sl V, cells_sl V, pure_sl V, Int.toNat_natCast]
  refine G_loop_ind (fun m ts h mk => ∃ i : Nat, i ≤ l.length ∧ m = l.length - i ∧ ts.length = 25 ∧ ts.getD 1 .undef = v ∧ ts.getD 2 .undef = .ptr 0 0 ∧ ts.getD 5 .undef = I (cstU s l i) ∧ ts.getD 6 .undef = I i ∧ h = [.cells [I s.w.lo, I s.w.hi, p, b] false] ∧ mk = []) ?_ _ _ _ _
    ⟨0, Nat.zero_le _, rfl, rfl, rfl, rfl, rfl, rfl, rfl, rfl⟩
  rintro m ts h mk ih ⟨i, hi, rfl, hl', q1, q2, q5, q6, rfl, rfl⟩
  rw [lit_all hl']
  simp only [lit0, litS, Nat.reduceAdd, q1, q2, q5, q6]
  simp (disch := first | assumption | omega | (simp only [az]; done)) only [ru, eq_self, if_true, if_false, BEq.rfl, binI, AO.row?, splice, fillL, mmAll, loadV, storeV, zeros, Am.rowAt, Am.part, addOff, Nat.reduceAdd, Nat.reduceMul, Nat.reduceLeDiff, Nat.reduceSub, Nat.reduceLT, Int.reduceEq, Int.reduceLT, Int.reduceLE, Int.reduceGT, Int.reduceGE, Int.reduceAdd, Int.reduceSub, Int.reduceMul, Int.reduceNeg, Int.reduceToNat, reduceCtorEq, reduceIte, lenV_sl V, elem_in V, view_sl V, scalar_sl V, cells_sl V, pure_sl V, Int.toNat_natCast]
  by_cases hlt : (i : Int) < l.length
  case pos =>
    have hi' : i < l.length := by omega
    have hx := hc i hi'
    have c1 := cstU_le K (l := l) (k := i)
    have c2 := boat_ok K (l.getD i 0)
    have eb : s.bo.getD (l.getD i 0).toNat default = boat s (l.getD i 0) := rfl
    have eu : cstU s l (i + 1) = cstU s l i + (boat s (l.getD i 0)).p := rfl
    obtain ⟨x, hx'⟩ : ∃ x, x = l.getD i 0 := ⟨_, rfl⟩
    rw [← hx'] at hx c2 eb eu
    simp (disch := first | assumption | omega | (simp only [az]; done)) only [ru, eq_self, if_true, if_false, BEq.rfl, binI, AO.row?, splice, fillL, mmAll, loadV, storeV, zeros, Am.rowAt, Am.part, addOff, Nat.reduceAdd, Nat.reduceMul, Nat.reduceLeDiff, Nat.reduceSub, Nat.reduceLT, Int.reduceEq, Int.reduceLT, Int.reduceLE, Int.reduceGT, Int.reduceGE, Int.reduceAdd, Int.reduceSub, Int.reduceMul, Int.reduceNeg, Int.reduceToNat, reduceCtorEq, reduceIte, lenV_sl H.p, lenV_sl H.b, elem_sp H.p, elem_bt H.b, view_sl H.p, view_sl H.b, scalar_sl H.p, scalar_sl H.b, cells_sl H.p, cells_sl H.b, pure_sl H.p, pure_sl H.b, Int.toNat_natCast, lenV_sl V, elem_in V, view_sl V, scalar_sl V, cells_sl V, pure_sl V, Int.toNat_natCast, hlt, ← hx', hx.1, hx.2, eb]
    exact ih (l.length - (i + 1)) _ _ _ (by omega) ⟨i + 1, by omega, rfl, rfl, rfl, rfl, by rw [eu]; rfl, rfl, rfl, rfl⟩
  obtain rfl : i = l.length := by omega
  simp (disch := first | assumption | omega | (simp only [az]; done)) only [ru, eq_self, if_true, if_false, BEq.rfl, binI, AO.row?, splice, fillL, mmAll, loadV, storeV, zeros, Am.rowAt, Am.part, addOff, Nat.reduceAdd, Nat.reduceMul, Nat.reduceLeDiff, Nat.reduceSub, Nat.reduceLT, Int.reduceEq, Int.reduceLT, Int.reduceLE, Int.reduceGT, Int.reduceGE, Int.reduceAdd, Int.reduceSub, Int.reduceMul, Int.reduceNeg, Int.reduceToNat, reduceCtorEq, reduceIte, hlt]
theorem s96 (H : SeaOk s p b) (K : SeaG s) (V : IsSl 1 intL l v) (hl : l.length ≤ s.pl.length) (hc : ∀ i, i < l.length → 0 ≤ l.getD i 0 ∧ l.getD i 0 < s.bo.length) (st : Bool) : Iso E 96 [seaV s p b, v] st = some (I (lft s l)) := by
  have hs := H.sp
  refine Iso_of (es _ _ _ _) e96 ?_
  simp only [f96, seaV]
  simp (disch := first | assumption | omega | (simp only [az]; done)) only [ru, eq_self, if_true, if_false, BEq.rfl, binI, AO.row?, splice, fillL, mmAll, loadV, storeV, zeros, Am.rowAt, Am.part, addOff, Nat.reduceAdd, Nat.reduceMul, Nat.reduceLeDiff, Nat.reduceSub, Nat.reduceLT, Int.reduceEq, Int.reduceLT, Int.reduceLE, Int.reduceGT, Int.reduceGE, Int.reduceAdd, Int.reduceSub, Int.reduceMul, Int.reduceNeg, Int.reduceToNat, reduceCtorEq, reduceIte, lenV_sl H.p, lenV_sl H.b, elem_sp H.p, elem_bt H.b, view_sl H.p, view_sl H.b, scalar_sl H.p, scalar_sl H.b, cells_sl H.p, cells_sl H.b, pure_sl H.p, pure_sl H.b, Int.toNat_natCast, lenV_sl V, elem_in V, view_sl V, scalar_sl V, cells_sl V, pure_sl V, Int.toNat_natCast]
  refine G_loop_ind (fun m ts h mk => ∃ i : Nat, i ≤ l.length ∧ m = l.length - i ∧ ts.length = 23 ∧ ts.getD 2 .undef = .ptr 0 0 ∧ ts.getD 5 .undef = I (lftU s l i) ∧ ts.getD 8 .undef = v ∧ ts.getD 9 .undef = I l.length ∧ ts.getD 10 .undef = I i ∧ h = [.cells [I s.w.lo, I s.w.hi, p, b] false] ∧ mk = []) ?_ _ _ _ _
    ⟨0, Nat.zero_le _, rfl, rfl, rfl, rfl, rfl, rfl, rfl, rfl, rfl⟩
  rintro m ts h mk ih ⟨i, hi, rfl, hl', q2, q5, q8, q9, q10, rfl, rfl⟩
  rw [lit_all hl']
  simp only [lit0, litS, Nat.reduceAdd, q2, q5, q8, q9, q10]
  simp (disch := first | assumption | omega | (simp only [az]; done)) only [ru, eq_self, if_true, if_false, BEq.rfl, binI, AO.row?, splice, fillL, mmAll, loadV, storeV, zeros, Am.rowAt, Am.part, addOff, Nat.reduceAdd, Nat.reduceMul, Nat.reduceLeDiff, Nat.reduceSub, Nat.reduceLT, Int.reduceEq, Int.reduceLT, Int.reduceLE, Int.reduceGT, Int.reduceGE, Int.reduceAdd, Int.reduceSub, Int.reduceMul, Int.reduceNeg, Int.reduceToNat, reduceCtorEq, reduceIte]
  by_cases hlt : (i : Int) < l.length
  case pos =>
    have hi' : i < l.length := by omega
    have hx := hc i hi'
    have g := fun st => s112 H K (i := i) (by omega) hx.1 hx.2 st
    have eu : lftU s l (i + 1) = mmx false (lftU s l i) (brs s.pl (boat s (l.getD i 0)).c i) := rfl
    simp only [seaV] at g
    obtain ⟨x, hx'⟩ : ∃ x, x = l.getD i 0 := ⟨_, rfl⟩
    rw [← hx'] at hx eu
    simp only [← hx'] at g
    simp (disch := first | assumption | omega | (simp only [az]; done)) only [ru, eq_self, if_true, if_false, BEq.rfl, binI, AO.row?, splice, fillL, mmAll, loadV, storeV, zeros, Am.rowAt, Am.part, addOff, Nat.reduceAdd, Nat.reduceMul, Nat.reduceLeDiff, Nat.reduceSub, Nat.reduceLT, Int.reduceEq, Int.reduceLT, Int.reduceLE, Int.reduceGT, Int.reduceGE, Int.reduceAdd, Int.reduceSub, Int.reduceMul, Int.reduceNeg, Int.reduceToNat, reduceCtorEq, reduceIte, lenV_sl H.p, lenV_sl H.b, elem_sp H.p, elem_bt H.b, view_sl H.p, view_sl H.b, scalar_sl H.p, scalar_sl H.b, cells_sl H.p, cells_sl H.b, pure_sl H.p, pure_sl H.b, Int.toNat_natCast, lenV_sl V, elem_in V, view_sl V, scalar_sl V, cells_sl V, pure_sl V, Int.toNat_natCast, hlt, ← hx', g]
    exact ih (l.length - (i + 1)) _ _ _ (by omega) ⟨i + 1, by omega, rfl, rfl, rfl, by rw [eu]; rfl, rfl, rfl, rfl, rfl, rfl⟩
  obtain rfl : i = l.length := by omega
  simp (disch := first | assumption | omega | (simp only [az]; done)) only [ru, eq_self, if_true, if_false, BEq.rfl, binI, AO.row?, splice, fillL, mmAll, loadV, storeV, zeros, Am.rowAt, Am.part, addOff, Nat.reduceAdd, Nat.reduceMul, Nat.reduceLeDiff, Nat.reduceSub, Nat.reduceLT, Int.reduceEq, Int.reduceLT, Int.reduceLE, Int.reduceGT, Int.reduceGE, Int.reduceAdd, Int.reduceSub, Int.reduceMul, Int.reduceNeg, Int.reduceToNat, reduceCtorEq, reduceIte, hlt]
theorem s79 (H : SeaOk s p b) (K : SeaG s) (V : IsSl 1 intL l v) (hl : l.length ≤ s.pl.length) (hc : ∀ i, i < l.length → 0 ≤ l.getD i 0 ∧ l.getD i 0 < s.bo.length) (st : Bool) : Iso E 79 [seaV s p b, v] st = some (Bo (decide (s.w.hi ≤ lft s l))) := by
  have g := fun st => s96 H K V hl hc st
  refine Iso_of (es _ _ _ _) e79 ?_
  simp only [f79, seaV] at g ⊢
  simp (disch := first | assumption | omega | (simp only [az]; done)) only [ru, eq_self, if_true, if_false, BEq.rfl, binI, AO.row?, splice, fillL, mmAll, loadV, storeV, zeros, Am.rowAt, Am.part, addOff, Nat.reduceAdd, Nat.reduceMul, Nat.reduceLeDiff, Nat.reduceSub, Nat.reduceLT, Int.reduceEq, Int.reduceLT, Int.reduceLE, Int.reduceGT, Int.reduceGE, Int.reduceAdd, Int.reduceSub, Int.reduceMul, Int.reduceNeg, Int.reduceToNat, reduceCtorEq, reduceIte, lenV_sl H.p, lenV_sl H.b, elem_sp H.p, elem_bt H.b, view_sl H.p, view_sl H.b, scalar_sl H.p, scalar_sl H.b, cells_sl H.p, cells_sl H.b, pure_sl H.p, pure_sl H.b, Int.toNat_natCast, lenV_sl V, elem_in V, view_sl V, scalar_sl V, cells_sl V, pure_sl V, Int.toNat_natCast, g, ge_iff_le]
theorem s99 (L : List Spn) {i : Nat} {c : Int} (h0 : 0 ≤ c) (h1 : c ≤ 1000) (hs : 0 ≤ shH L i ∧ shH L i ≤ 12) (st : Bool) : Iso E 99 [I c, I (shH L i)] st = some (I (brs L c i)) := by
  refine Iso_of (es _ _ _ _) e99 ?_
  simp only [f99, brs]
  obtain ⟨y, hy⟩ : ∃ y, y = shH L i := ⟨_, rfl⟩
  simp only [← hy] at hs ⊢
  by_cases e : y = 0
  · simp (disch := first | assumption | omega | (simp only [az]; done)) only [ru, eq_self, if_true, if_false, BEq.rfl, binI, AO.row?, splice, fillL, mmAll, loadV, storeV, zeros, Am.rowAt, Am.part, addOff, Nat.reduceAdd, Nat.reduceMul, Nat.reduceLeDiff, Nat.reduceSub, Nat.reduceLT, Int.reduceEq, Int.reduceLT, Int.reduceLE, Int.reduceGT, Int.reduceGE, Int.reduceAdd, Int.reduceSub, Int.reduceMul, Int.reduceNeg, Int.reduceToNat, reduceCtorEq, reduceIte, e]
  · have hd : (12 * c).tdiv y = 12 * c / y := Int.tdiv_eq_ediv_of_nonneg (by omega)
    have d0 : 0 ≤ 12 * c / y := Int.ediv_nonneg (by omega) (by omega)
    have d1 : 12 * c / y ≤ 12 * c := Int.ediv_le_self _ (by omega)
    have em : mmx false 2000 (12 * c / y) = mn (12 * c / y) 2000 := by rw [mn_comm]; rfl
    simp (disch := first | assumption | omega | (simp only [az]; done)) only [ru, eq_self, if_true, if_false, BEq.rfl, binI, AO.row?, splice, fillL, mmAll, loadV, storeV, zeros, Am.rowAt, Am.part, addOff, Nat.reduceAdd, Nat.reduceMul, Nat.reduceLeDiff, Nat.reduceSub, Nat.reduceLT, Int.reduceEq, Int.reduceLT, Int.reduceLE, Int.reduceGT, Int.reduceGE, Int.reduceAdd, Int.reduceSub, Int.reduceMul, Int.reduceNeg, Int.reduceToNat, reduceCtorEq, reduceIte, e, hd, em]
end
end Go.Proofs.Ytdmhbefdidmliaa.S

/-
Safe, Lifts and First of both sides.
-/
namespace Go.Proofs.Ytdmhbefdidmliaa.S
open Go Go.Am Go.Proofs.Ytdmhbefdidmliaa.T
set_option maxRecDepth 100000
set_option linter.unusedSimpArgs false
set_option linter.unusedVariables false

theorem OutE.viewL {b : Nat} {h : List AO} {v : AV} {l : List Int} (H : OutE intL 1 b h v l) {st : Bool} {k : Nat} : Am.view st h (k + 1) v = some (resL l) := by
  by_cases hne : l = []
  · subst hne
    rcases H with ⟨_, rfl⟩ | ⟨h, _⟩
    · rfl
    · exact absurd rfl h
  · rw [resL, if_neg hne]
    exact outE_view intE H hne fun a => by
      show [I a].mapM _ = _
      rw [List.mapM_cons, view_int]; rfl
theorem OutE.lenL {b : Nat} {h : List AO} {v : AV} {l : List Int} (H : OutE intL 1 b h v l) : lenV v = some (I l.length) := by
  rcases H with ⟨rfl, rfl⟩ | ⟨_, o, _, rfl, _⟩ <;> rfl

def shs (s : Sea) : List Int := (List.range s.pl.length).map (shH s.pl)
def nds (s : Sea) : List Int := (List.range s.pl.length).map (needv s)
theorem rmap_len {f : Nat → Int} {n : Nat} : ((List.range n).map f).length = n := by simp
theorem rmap_at {f : Nat → Int} {n i : Nat} (h : i < n) : ((List.range n).map f).getD i 0 = f i := by
  simp [List.getD_eq_getElem?_getD, h]
theorem rmap_succ {f : Nat → Int} {n : Nat} : (List.range (n + 1)).map f = (List.range n).map f ++ [f n] := by
  rw [List.range_succ, List.map_append]; rfl

section
variable {s : Sea} {p b : AV} {l : List Int} {v : AV}

theorem s98 (H : SeaOk s p b) (G : SpOk s.pl) (st : Bool) : Iso E 98 [seaV s p b] st = some (resL (shs s)) := by
  have sp := H.sp
  refine Iso_of (es _ _ _ _) e98 ?_
  simp only [f98, seaV]
  simp (disch := first | assumption | omega | (simp only [az]; done)) only [ru, eq_self, if_true, if_false, BEq.rfl, binI, AO.row?, splice, fillL, mmAll, loadV, storeV, zeros, Am.rowAt, Am.part, addOff, Nat.reduceAdd, Nat.reduceMul, Nat.reduceLeDiff, Nat.reduceSub, Nat.reduceLT, Int.reduceEq, Int.reduceLT, Int.reduceLE, Int.reduceGT, Int.reduceGE, Int.reduceAdd, Int.reduceSub, Int.reduceMul, Int.reduceNeg, Int.reduceToNat, reduceCtorEq, reduceIte]
  refine G_loop_ind (fun m ts h mk => ∃ (i : Nat) (J : List AO) (o : AV), i ≤ s.pl.length ∧ m = s.pl.length - i ∧ OutE intL 1 1 (.cells [I s.w.lo, I s.w.hi, p, b] false :: J) o ((List.range i).map (shH s.pl)) ∧ ts.length = 20 ∧ ts.getD 1 .undef = .ptr 0 0 ∧ ts.getD 3 .undef = o ∧ ts.getD 4 .undef = I i ∧ h = .cells [I s.w.lo, I s.w.hi, p, b] false :: J ∧ mk = []) ?_ _ _ _ _
    ⟨0, [], .nils, Nat.zero_le _, rfl, .inl ⟨rfl, rfl⟩, rfl, rfl, rfl, rfl, rfl, rfl⟩
  rintro m ts h mk ih ⟨i, J, o, hi, rfl, ho, hl', q1, q3, q4, rfl, rfl⟩
  rw [lit_all hl']
  simp only [lit0, litS, Nat.reduceAdd, q1, q3, q4]
  simp (disch := first | assumption | omega | (simp only [az]; done)) only [ru, eq_self, if_true, if_false, BEq.rfl, binI, AO.row?, splice, fillL, mmAll, loadV, storeV, zeros, Am.rowAt, Am.part, addOff, Nat.reduceAdd, Nat.reduceMul, Nat.reduceLeDiff, Nat.reduceSub, Nat.reduceLT, Int.reduceEq, Int.reduceLT, Int.reduceLE, Int.reduceGT, Int.reduceGE, Int.reduceAdd, Int.reduceSub, Int.reduceMul, Int.reduceNeg, Int.reduceToNat, reduceCtorEq, reduceIte, lenV_sl H.p, lenV_sl H.b, elem_sp H.p, elem_bt H.b, view_sl H.p, view_sl H.b, scalar_sl H.p, scalar_sl H.b, cells_sl H.p, cells_sl H.b, pure_sl H.p, pure_sl H.b, Int.toNat_natCast]
  by_cases hlt : (i : Int) < s.pl.length
  case pos =>
    have hi' : i < s.pl.length := by omega
    have g := fun st => s90 H G hi' st
    simp only [seaV] at g
    obtain ⟨v', J', ha, ho'⟩ := outE_app (pre := [(.cells [I s.w.lo, I s.w.hi, p, b] false : AO)]) (J := J) (eb := 8) (lim := 0) intE intSc (by omega) (by omega) (by omega) ho (Nat.zero_le _) (by simp; omega) (shH s.pl i)
    simp only [apC, apN, lenS, len0, Nat.zero_add] at ha ho'
    simp (disch := first | assumption | omega | (simp only [az]; done)) only [ru, eq_self, if_true, if_false, BEq.rfl, binI, AO.row?, splice, fillL, mmAll, loadV, storeV, zeros, Am.rowAt, Am.part, addOff, Nat.reduceAdd, Nat.reduceMul, Nat.reduceLeDiff, Nat.reduceSub, Nat.reduceLT, Int.reduceEq, Int.reduceLT, Int.reduceLE, Int.reduceGT, Int.reduceGE, Int.reduceAdd, Int.reduceSub, Int.reduceMul, Int.reduceNeg, Int.reduceToNat, reduceCtorEq, reduceIte, lenV_sl H.p, lenV_sl H.b, elem_sp H.p, elem_bt H.b, view_sl H.p, view_sl H.b, scalar_sl H.p, scalar_sl H.b, cells_sl H.p, cells_sl H.b, pure_sl H.p, pure_sl H.b, Int.toNat_natCast, hlt, g, exOp_litS, ha]
    exact ih (s.pl.length - (i + 1)) _ _ _ (by omega) ⟨i + 1, J', v', by omega, rfl, by rw [rmap_succ]; exact ho', rfl, rfl, rfl, rfl, rfl, rfl⟩
  obtain rfl : i = s.pl.length := by omega
  simp (disch := first | assumption | omega | (simp only [az]; done)) only [ru, eq_self, if_true, if_false, BEq.rfl, binI, AO.row?, splice, fillL, mmAll, loadV, storeV, zeros, Am.rowAt, Am.part, addOff, Nat.reduceAdd, Nat.reduceMul, Nat.reduceLeDiff, Nat.reduceSub, Nat.reduceLT, Int.reduceEq, Int.reduceLT, Int.reduceLE, Int.reduceGT, Int.reduceGE, Int.reduceAdd, Int.reduceSub, Int.reduceMul, Int.reduceNeg, Int.reduceToNat, reduceCtorEq, reduceIte, hlt]
  exact ho.viewL
theorem s101 (H : SeaOk s p b) (K : SeaG s) (st : Bool) : Iso E 101 [seaV s p b] st = some (resL (nds s)) := by
  have sp := H.sp
  refine Iso_of (es _ _ _ _) e101 ?_
  simp only [f101, seaV]
  simp (disch := first | assumption | omega | (simp only [az]; done)) only [ru, eq_self, if_true, if_false, BEq.rfl, binI, AO.row?, splice, fillL, mmAll, loadV, storeV, zeros, Am.rowAt, Am.part, addOff, Nat.reduceAdd, Nat.reduceMul, Nat.reduceLeDiff, Nat.reduceSub, Nat.reduceLT, Int.reduceEq, Int.reduceLT, Int.reduceLE, Int.reduceGT, Int.reduceGE, Int.reduceAdd, Int.reduceSub, Int.reduceMul, Int.reduceNeg, Int.reduceToNat, reduceCtorEq, reduceIte]
  refine G_loop_ind (fun m ts h mk => ∃ (i : Nat) (J : List AO) (o : AV), i ≤ s.pl.length ∧ m = s.pl.length - i ∧ OutE intL 1 1 (.cells [I s.w.lo, I s.w.hi, p, b] false :: J) o ((List.range i).map (needv s)) ∧ ts.length = 19 ∧ ts.getD 1 .undef = .ptr 0 0 ∧ ts.getD 3 .undef = o ∧ ts.getD 4 .undef = I i ∧ h = .cells [I s.w.lo, I s.w.hi, p, b] false :: J ∧ mk = []) ?_ _ _ _ _
    ⟨0, [], .nils, Nat.zero_le _, rfl, .inl ⟨rfl, rfl⟩, rfl, rfl, rfl, rfl, rfl, rfl⟩
  rintro m ts h mk ih ⟨i, J, o, hi, rfl, ho, hl', q1, q3, q4, rfl, rfl⟩
  rw [lit_all hl']
  simp only [lit0, litS, Nat.reduceAdd, q1, q3, q4]
  simp (disch := first | assumption | omega | (simp only [az]; done)) only [ru, eq_self, if_true, if_false, BEq.rfl, binI, AO.row?, splice, fillL, mmAll, loadV, storeV, zeros, Am.rowAt, Am.part, addOff, Nat.reduceAdd, Nat.reduceMul, Nat.reduceLeDiff, Nat.reduceSub, Nat.reduceLT, Int.reduceEq, Int.reduceLT, Int.reduceLE, Int.reduceGT, Int.reduceGE, Int.reduceAdd, Int.reduceSub, Int.reduceMul, Int.reduceNeg, Int.reduceToNat, reduceCtorEq, reduceIte, lenV_sl H.p, lenV_sl H.b, elem_sp H.p, elem_bt H.b, view_sl H.p, view_sl H.b, scalar_sl H.p, scalar_sl H.b, cells_sl H.p, cells_sl H.b, pure_sl H.p, pure_sl H.b, Int.toNat_natCast]
  by_cases hlt : (i : Int) < s.pl.length
  case pos =>
    have hi' : i < s.pl.length := by omega
    have g := fun st => s92 H K hi' st
    simp only [seaV] at g
    obtain ⟨v', J', ha, ho'⟩ := outE_app (pre := [(.cells [I s.w.lo, I s.w.hi, p, b] false : AO)]) (J := J) (eb := 8) (lim := 0) intE intSc (by omega) (by omega) (by omega) ho (Nat.zero_le _) (by simp; omega) (needv s i)
    simp only [apC, apN, lenS, len0, Nat.zero_add] at ha ho'
    simp (disch := first | assumption | omega | (simp only [az]; done)) only [ru, eq_self, if_true, if_false, BEq.rfl, binI, AO.row?, splice, fillL, mmAll, loadV, storeV, zeros, Am.rowAt, Am.part, addOff, Nat.reduceAdd, Nat.reduceMul, Nat.reduceLeDiff, Nat.reduceSub, Nat.reduceLT, Int.reduceEq, Int.reduceLT, Int.reduceLE, Int.reduceGT, Int.reduceGE, Int.reduceAdd, Int.reduceSub, Int.reduceMul, Int.reduceNeg, Int.reduceToNat, reduceCtorEq, reduceIte, lenV_sl H.p, lenV_sl H.b, elem_sp H.p, elem_bt H.b, view_sl H.p, view_sl H.b, scalar_sl H.p, scalar_sl H.b, cells_sl H.p, cells_sl H.b, pure_sl H.p, pure_sl H.b, Int.toNat_natCast, hlt, g, exOp_litS, ha]
    exact ih (s.pl.length - (i + 1)) _ _ _ (by omega) ⟨i + 1, J', v', by omega, rfl, by rw [rmap_succ]; exact ho', rfl, rfl, rfl, rfl, rfl, rfl⟩
  obtain rfl : i = s.pl.length := by omega
  simp (disch := first | assumption | omega | (simp only [az]; done)) only [ru, eq_self, if_true, if_false, BEq.rfl, binI, AO.row?, splice, fillL, mmAll, loadV, storeV, zeros, Am.rowAt, Am.part, addOff, Nat.reduceAdd, Nat.reduceMul, Nat.reduceLeDiff, Nat.reduceSub, Nat.reduceLT, Int.reduceEq, Int.reduceLT, Int.reduceLE, Int.reduceGT, Int.reduceGE, Int.reduceAdd, Int.reduceSub, Int.reduceMul, Int.reduceNeg, Int.reduceToNat, reduceCtorEq, reduceIte, hlt]
  exact ho.viewL

theorem s97 (H : SeaOk s p b) (K : SeaG s) (V : IsSl 1 intL l v) (hl : l.length ≤ s.pl.length) (hc : ∀ i, i < l.length → 0 ≤ l.getD i 0 ∧ l.getD i 0 < s.bo.length) {u : AV} (U : IsSl 1 intL (shs s) u) (st : Bool) : Iso E 97 [seaV s p b, v, u] st = some (I (lft s l)) := by
  have hs := H.sp
  have ul : (shs s).length = s.pl.length := rmap_len
  refine Iso_of (es _ _ _ _) e97 ?_
  simp only [f97, seaV]
  simp (disch := first | assumption | omega | (simp only [az]; done)) only [ru, eq_self, if_true, if_false, BEq.rfl, binI, AO.row?, splice, fillL, mmAll, loadV, storeV, zeros, Am.rowAt, Am.part, addOff, Nat.reduceAdd, Nat.reduceMul, Nat.reduceLeDiff, Nat.reduceSub, Nat.reduceLT, Int.reduceEq, Int.reduceLT, Int.reduceLE, Int.reduceGT, Int.reduceGE, Int.reduceAdd, Int.reduceSub, Int.reduceMul, Int.reduceNeg, Int.reduceToNat, reduceCtorEq, reduceIte]
  refine G_loop_ind (fun m ts h mk => ∃ i : Nat, i ≤ l.length ∧ m = l.length - i ∧ ts.length = 32 ∧ ts.getD 1 .undef = v ∧ ts.getD 2 .undef = u ∧ ts.getD 3 .undef = .ptr 0 0 ∧ ts.getD 7 .undef = I (lftU s l i) ∧ ts.getD 8 .undef = I i ∧ h = [.cells [I s.w.lo, I s.w.hi, p, b] false] ∧ mk = []) ?_ _ _ _ _
    ⟨0, Nat.zero_le _, rfl, rfl, rfl, rfl, rfl, rfl, rfl, rfl, rfl⟩
  rintro m ts h mk ih ⟨i, hi, rfl, hl', q1, q2, q3, q7, q8, rfl, rfl⟩
  rw [lit_all hl']
  simp only [lit0, litS, Nat.reduceAdd, q1, q2, q3, q7, q8]
  simp (disch := first | assumption | omega | (simp only [az]; done)) only [ru, eq_self, if_true, if_false, BEq.rfl, binI, AO.row?, splice, fillL, mmAll, loadV, storeV, zeros, Am.rowAt, Am.part, addOff, Nat.reduceAdd, Nat.reduceMul, Nat.reduceLeDiff, Nat.reduceSub, Nat.reduceLT, Int.reduceEq, Int.reduceLT, Int.reduceLE, Int.reduceGT, Int.reduceGE, Int.reduceAdd, Int.reduceSub, Int.reduceMul, Int.reduceNeg, Int.reduceToNat, reduceCtorEq, reduceIte, lenV_sl V, elem_in V, view_sl V, scalar_sl V, cells_sl V, pure_sl V, Int.toNat_natCast]
  by_cases hlt : (i : Int) < l.length
  case pos =>
    have hi' : i < l.length := by omega
    have hx := hc i hi'
    have c2 := boat_ok K (l.getD i 0)
    have hs2 := shr_le K.sp (p := i) (by omega)
    have g := fun st => s99 s.pl (i := i) c2.1 c2.2.1 (by omega) st
    have eb : s.bo.getD (l.getD i 0).toNat default = boat s (l.getD i 0) := rfl
    have eu : lftU s l (i + 1) = mmx false (lftU s l i) (brs s.pl (boat s (l.getD i 0)).c i) := rfl
    have ei : (shs s).getD i 0 = shH s.pl i := rmap_at (by omega)
    have hiu : (i : Int) < (shs s).length := by omega
    obtain ⟨x, hx'⟩ : ∃ x, x = l.getD i 0 := ⟨_, rfl⟩
    rw [← hx'] at hx eu eb c2
    simp only [← hx'] at g
    simp (disch := first | assumption | omega | (simp only [az]; done)) only [ru, eq_self, if_true, if_false, BEq.rfl, binI, AO.row?, splice, fillL, mmAll, loadV, storeV, zeros, Am.rowAt, Am.part, addOff, Nat.reduceAdd, Nat.reduceMul, Nat.reduceLeDiff, Nat.reduceSub, Nat.reduceLT, Int.reduceEq, Int.reduceLT, Int.reduceLE, Int.reduceGT, Int.reduceGE, Int.reduceAdd, Int.reduceSub, Int.reduceMul, Int.reduceNeg, Int.reduceToNat, reduceCtorEq, reduceIte, lenV_sl H.p, lenV_sl H.b, elem_sp H.p, elem_bt H.b, view_sl H.p, view_sl H.b, scalar_sl H.p, scalar_sl H.b, cells_sl H.p, cells_sl H.b, pure_sl H.p, pure_sl H.b, Int.toNat_natCast, lenV_sl V, elem_in V, view_sl V, scalar_sl V, cells_sl V, pure_sl V, Int.toNat_natCast, lenV_sl U, elem_in U, view_sl U, scalar_sl U, cells_sl U, pure_sl U, Int.toNat_natCast, hlt, hiu, ← hx', hx.1, hx.2, eb, ei, g]
    exact ih (l.length - (i + 1)) _ _ _ (by omega) ⟨i + 1, by omega, rfl, rfl, rfl, rfl, rfl, by rw [eu]; rfl, rfl, rfl, rfl⟩
  obtain rfl : i = l.length := by omega
  simp (disch := first | assumption | omega | (simp only [az]; done)) only [ru, eq_self, if_true, if_false, BEq.rfl, binI, AO.row?, splice, fillL, mmAll, loadV, storeV, zeros, Am.rowAt, Am.part, addOff, Nat.reduceAdd, Nat.reduceMul, Nat.reduceLeDiff, Nat.reduceSub, Nat.reduceLT, Int.reduceEq, Int.reduceLT, Int.reduceLE, Int.reduceGT, Int.reduceGE, Int.reduceAdd, Int.reduceSub, Int.reduceMul, Int.reduceNeg, Int.reduceToNat, reduceCtorEq, reduceIte, hlt]

theorem s29 (H : SeaOk s p b) (V : IsSl 1 intL l v) (hl : l.length ≤ s.pl.length) (hc : ∀ i, i < l.length → 0 ≤ l.getD i 0 ∧ l.getD i 0 < s.bo.length) {u : AV} (U : IsSl 1 intL (nds s) u) (st : Bool) : Iso E 29 [seaV s p b, v, u] st = some (Bo (fts s l)) := by
  have hs := H.sp
  have ul : (nds s).length = s.pl.length := rmap_len
  refine Iso_of (es _ _ _ _) e29 ?_
  simp only [f29, seaV]
  simp (disch := first | assumption | omega | (simp only [az]; done)) only [ru, eq_self, if_true, if_false, BEq.rfl, binI, AO.row?, splice, fillL, mmAll, loadV, storeV, zeros, Am.rowAt, Am.part, addOff, Nat.reduceAdd, Nat.reduceMul, Nat.reduceLeDiff, Nat.reduceSub, Nat.reduceLT, Int.reduceEq, Int.reduceLT, Int.reduceLE, Int.reduceGT, Int.reduceGE, Int.reduceAdd, Int.reduceSub, Int.reduceMul, Int.reduceNeg, Int.reduceToNat, reduceCtorEq, reduceIte]
  refine G_loop_ind (fun m ts h mk => ∃ i : Nat, i ≤ l.length ∧ m = l.length - i ∧ (List.range i).all (fun i => decide (needv s i ≤ (boat s (l.getD i 0)).c)) = true ∧ ts.length = 28 ∧ ts.getD 1 .undef = v ∧ ts.getD 2 .undef = u ∧ ts.getD 3 .undef = .ptr 0 0 ∧ ts.getD 7 .undef = I i ∧ h = [.cells [I s.w.lo, I s.w.hi, p, b] false] ∧ mk = []) ?_ _ _ _ _
    ⟨0, Nat.zero_le _, rfl, rfl, rfl, rfl, rfl, rfl, rfl, rfl, rfl⟩
  rintro m ts h mk ih ⟨i, hi, rfl, hall, hl', q1, q2, q3, q7, rfl, rfl⟩
  rw [lit_all hl']
  simp only [lit0, litS, Nat.reduceAdd, q1, q2, q3, q7]
  simp (disch := first | assumption | omega | (simp only [az]; done)) only [ru, eq_self, if_true, if_false, BEq.rfl, binI, AO.row?, splice, fillL, mmAll, loadV, storeV, zeros, Am.rowAt, Am.part, addOff, Nat.reduceAdd, Nat.reduceMul, Nat.reduceLeDiff, Nat.reduceSub, Nat.reduceLT, Int.reduceEq, Int.reduceLT, Int.reduceLE, Int.reduceGT, Int.reduceGE, Int.reduceAdd, Int.reduceSub, Int.reduceMul, Int.reduceNeg, Int.reduceToNat, reduceCtorEq, reduceIte, lenV_sl V, elem_in V, view_sl V, scalar_sl V, cells_sl V, pure_sl V, Int.toNat_natCast]
  by_cases hlt : (i : Int) < l.length
  case pos =>
    have hi' : i < l.length := by omega
    have hx := hc i hi'
    have eb : s.bo.getD (l.getD i 0).toNat default = boat s (l.getD i 0) := rfl
    have ei : (nds s).getD i 0 = needv s i := rmap_at (by omega)
    have hiu : (i : Int) < (nds s).length := by omega
    by_cases hcc : (boat s (l.getD i 0)).c < needv s i
    · have ev : fts s l = false := range_not hi' (decide_eq_false (by omega))
      obtain ⟨x, hx'⟩ : ∃ x, x = l.getD i 0 := ⟨_, rfl⟩
      rw [← hx'] at hx eb hcc
      simp (disch := first | assumption | omega | (simp only [az]; done)) only [ru, eq_self, if_true, if_false, BEq.rfl, binI, AO.row?, splice, fillL, mmAll, loadV, storeV, zeros, Am.rowAt, Am.part, addOff, Nat.reduceAdd, Nat.reduceMul, Nat.reduceLeDiff, Nat.reduceSub, Nat.reduceLT, Int.reduceEq, Int.reduceLT, Int.reduceLE, Int.reduceGT, Int.reduceGE, Int.reduceAdd, Int.reduceSub, Int.reduceMul, Int.reduceNeg, Int.reduceToNat, reduceCtorEq, reduceIte, lenV_sl H.p, lenV_sl H.b, elem_sp H.p, elem_bt H.b, view_sl H.p, view_sl H.b, scalar_sl H.p, scalar_sl H.b, cells_sl H.p, cells_sl H.b, pure_sl H.p, pure_sl H.b, Int.toNat_natCast, lenV_sl V, elem_in V, view_sl V, scalar_sl V, cells_sl V, pure_sl V, Int.toNat_natCast, lenV_sl U, elem_in U, view_sl U, scalar_sl U, cells_sl U, pure_sl U, Int.toNat_natCast, hlt, hiu, ← hx', hx.1, hx.2, eb, ei, hcc, ev]
    · have hr := range_all_succ hall (show decide (needv s i ≤ (boat s (l.getD i 0)).c) = true from decide_eq_true (by omega))
      obtain ⟨x, hx'⟩ : ∃ x, x = l.getD i 0 := ⟨_, rfl⟩
      rw [← hx'] at hx eb hcc
      simp (disch := first | assumption | omega | (simp only [az]; done)) only [ru, eq_self, if_true, if_false, BEq.rfl, binI, AO.row?, splice, fillL, mmAll, loadV, storeV, zeros, Am.rowAt, Am.part, addOff, Nat.reduceAdd, Nat.reduceMul, Nat.reduceLeDiff, Nat.reduceSub, Nat.reduceLT, Int.reduceEq, Int.reduceLT, Int.reduceLE, Int.reduceGT, Int.reduceGE, Int.reduceAdd, Int.reduceSub, Int.reduceMul, Int.reduceNeg, Int.reduceToNat, reduceCtorEq, reduceIte, lenV_sl H.p, lenV_sl H.b, elem_sp H.p, elem_bt H.b, view_sl H.p, view_sl H.b, scalar_sl H.p, scalar_sl H.b, cells_sl H.p, cells_sl H.b, pure_sl H.p, pure_sl H.b, Int.toNat_natCast, lenV_sl V, elem_in V, view_sl V, scalar_sl V, cells_sl V, pure_sl V, Int.toNat_natCast, lenV_sl U, elem_in U, view_sl U, scalar_sl U, cells_sl U, pure_sl U, Int.toNat_natCast, hlt, hiu, ← hx', hx.1, hx.2, eb, ei, hcc]
      exact ih (l.length - (i + 1)) _ _ _ (by omega) ⟨i + 1, by omega, rfl, hr, rfl, rfl, rfl, rfl, rfl, rfl, rfl⟩
  obtain rfl : i = l.length := by omega
  have ev : fts s l = true := hall
  simp (disch := first | assumption | omega | (simp only [az]; done)) only [ru, eq_self, if_true, if_false, BEq.rfl, binI, AO.row?, splice, fillL, mmAll, loadV, storeV, zeros, Am.rowAt, Am.part, addOff, Nat.reduceAdd, Nat.reduceMul, Nat.reduceLeDiff, Nat.reduceSub, Nat.reduceLT, Int.reduceEq, Int.reduceLT, Int.reduceLE, Int.reduceGT, Int.reduceGE, Int.reduceAdd, Int.reduceSub, Int.reduceMul, Int.reduceNeg, Int.reduceToNat, reduceCtorEq, reduceIte, hlt, ev]

theorem s30 (H : SeaOk s p b) (K : SeaG s) (V : IsSl 1 intL l v) (hl : l.length ≤ s.pl.length) (hc : ∀ i, i < l.length → 0 ≤ l.getD i 0 ∧ l.getD i 0 < s.bo.length) {w : Int} (w0 : 0 ≤ w) (w1 : w ≤ 2000) {q : List Int} {u : AV} (U : IsSl 1 intL q u) (hq : q.length = s.pl.length)
    (hb : ∀ i, i < q.length → 0 ≤ q.getD i 0 ∧ q.getD i 0 ≤ 12) (st : Bool) : Iso E 30 [seaV s p b, v, I w, u] st = some (Bo (ovr s l w q)) := by
  have hs := H.sp
  refine Iso_of (es _ _ _ _) e30 ?_
  simp only [f30, seaV]
  simp (disch := first | assumption | omega | (simp only [az]; done)) only [ru, eq_self, if_true, if_false, BEq.rfl, binI, AO.row?, splice, fillL, mmAll, loadV, storeV, zeros, Am.rowAt, Am.part, addOff, Nat.reduceAdd, Nat.reduceMul, Nat.reduceLeDiff, Nat.reduceSub, Nat.reduceLT, Int.reduceEq, Int.reduceLT, Int.reduceLE, Int.reduceGT, Int.reduceGE, Int.reduceAdd, Int.reduceSub, Int.reduceMul, Int.reduceNeg, Int.reduceToNat, reduceCtorEq, reduceIte]
  refine G_loop_ind (fun m ts h mk => ∃ i : Nat, i ≤ l.length ∧ m = l.length - i ∧ (∀ j, j < i → w * q.getD j 0 ≤ 12 * (boat s (l.getD j 0)).c) ∧ ts.length = 33 ∧ ts.getD 1 .undef = v ∧ ts.getD 2 .undef = I w ∧ ts.getD 3 .undef = u ∧ ts.getD 4 .undef = .ptr 0 0 ∧ ts.getD 9 .undef = I i ∧ h = [.cells [I s.w.lo, I s.w.hi, p, b] false] ∧ mk = []) ?_ _ _ _ _
    ⟨0, Nat.zero_le _, rfl, fun j h => by omega, rfl, rfl, rfl, rfl, rfl, rfl, rfl, rfl⟩
  rintro m ts h mk ih ⟨i, hi, rfl, hall, hl', q1, q2, q3, q4, q9, rfl, rfl⟩
  rw [lit_all hl']
  simp only [lit0, litS, Nat.reduceAdd, q1, q2, q3, q4, q9]
  simp (disch := first | assumption | omega | (simp only [az]; done)) only [ru, eq_self, if_true, if_false, BEq.rfl, binI, AO.row?, splice, fillL, mmAll, loadV, storeV, zeros, Am.rowAt, Am.part, addOff, Nat.reduceAdd, Nat.reduceMul, Nat.reduceLeDiff, Nat.reduceSub, Nat.reduceLT, Int.reduceEq, Int.reduceLT, Int.reduceLE, Int.reduceGT, Int.reduceGE, Int.reduceAdd, Int.reduceSub, Int.reduceMul, Int.reduceNeg, Int.reduceToNat, reduceCtorEq, reduceIte, lenV_sl V, elem_in V, view_sl V, scalar_sl V, cells_sl V, pure_sl V, Int.toNat_natCast]
  by_cases hlt : (i : Int) < l.length
  case pos =>
    have hi' : i < l.length := by omega
    have hx := hc i hi'
    have hy := hb i (by omega)
    have c2 := boat_ok K (l.getD i 0)
    have eb : s.bo.getD (l.getD i 0).toNat default = boat s (l.getD i 0) := rfl
    have hiu : (i : Int) < q.length := by omega
    have m0 : 0 ≤ w * q.getD i 0 := Int.mul_nonneg w0 hy.1
    have m1 : w * q.getD i 0 ≤ 2000 * 12 := Int.mul_le_mul w1 hy.2 hy.1 (by omega)
    by_cases hcc : w * q.getD i 0 > 12 * (boat s (l.getD i 0)).c
    · have ev : ovr s l w q = true := by
        rw [ovr, List.any_eq_true]; exact ⟨i, List.mem_range.2 hi', by simpa using hcc⟩
      obtain ⟨x, hx'⟩ : ∃ x, x = l.getD i 0 := ⟨_, rfl⟩
      obtain ⟨y, hy'⟩ : ∃ y, y = q.getD i 0 := ⟨_, rfl⟩
      rw [← hx'] at hx eb hcc c2
      rw [← hy'] at hcc m0 m1
      simp (disch := first | assumption | omega | (simp only [az]; done)) only [ru, eq_self, if_true, if_false, BEq.rfl, binI, AO.row?, splice, fillL, mmAll, loadV, storeV, zeros, Am.rowAt, Am.part, addOff, Nat.reduceAdd, Nat.reduceMul, Nat.reduceLeDiff, Nat.reduceSub, Nat.reduceLT, Int.reduceEq, Int.reduceLT, Int.reduceLE, Int.reduceGT, Int.reduceGE, Int.reduceAdd, Int.reduceSub, Int.reduceMul, Int.reduceNeg, Int.reduceToNat, reduceCtorEq, reduceIte, lenV_sl H.p, lenV_sl H.b, elem_sp H.p, elem_bt H.b, view_sl H.p, view_sl H.b, scalar_sl H.p, scalar_sl H.b, cells_sl H.p, cells_sl H.b, pure_sl H.p, pure_sl H.b, Int.toNat_natCast, lenV_sl V, elem_in V, view_sl V, scalar_sl V, cells_sl V, pure_sl V, Int.toNat_natCast, lenV_sl U, elem_in U, view_sl U, scalar_sl U, cells_sl U, pure_sl U, Int.toNat_natCast, hlt, hiu, ← hx', ← hy', hx.1, hx.2, eb, hcc, ev]
    · have hr : ∀ j, j < i + 1 → w * q.getD j 0 ≤ 12 * (boat s (l.getD j 0)).c := fun j hj => by
        by_cases e : j = i
        · subst e; omega
        · exact hall j (by omega)
      obtain ⟨x, hx'⟩ : ∃ x, x = l.getD i 0 := ⟨_, rfl⟩
      obtain ⟨y, hy'⟩ : ∃ y, y = q.getD i 0 := ⟨_, rfl⟩
      rw [← hx'] at hx eb hcc c2
      rw [← hy'] at hcc m0 m1
      simp (disch := first | assumption | omega | (simp only [az]; done)) only [ru, eq_self, if_true, if_false, BEq.rfl, binI, AO.row?, splice, fillL, mmAll, loadV, storeV, zeros, Am.rowAt, Am.part, addOff, Nat.reduceAdd, Nat.reduceMul, Nat.reduceLeDiff, Nat.reduceSub, Nat.reduceLT, Int.reduceEq, Int.reduceLT, Int.reduceLE, Int.reduceGT, Int.reduceGE, Int.reduceAdd, Int.reduceSub, Int.reduceMul, Int.reduceNeg, Int.reduceToNat, reduceCtorEq, reduceIte, lenV_sl H.p, lenV_sl H.b, elem_sp H.p, elem_bt H.b, view_sl H.p, view_sl H.b, scalar_sl H.p, scalar_sl H.b, cells_sl H.p, cells_sl H.b, pure_sl H.p, pure_sl H.b, Int.toNat_natCast, lenV_sl V, elem_in V, view_sl V, scalar_sl V, cells_sl V, pure_sl V, Int.toNat_natCast, lenV_sl U, elem_in U, view_sl U, scalar_sl U, cells_sl U, pure_sl U, Int.toNat_natCast, hlt, hiu, ← hx', ← hy', hx.1, hx.2, eb, hcc]
      exact ih (l.length - (i + 1)) _ _ _ (by omega) ⟨i + 1, by omega, rfl, hr, rfl, rfl, rfl, rfl, rfl, rfl, rfl, rfl⟩
  obtain rfl : i = l.length := by omega
  have ev : ovr s l w q = false := ovr_no.2 hall
  simp (disch := first | assumption | omega | (simp only [az]; done)) only [ru, eq_self, if_true, if_false, BEq.rfl, binI, AO.row?, splice, fillL, mmAll, loadV, storeV, zeros, Am.rowAt, Am.part, addOff, Nat.reduceAdd, Nat.reduceMul, Nat.reduceLeDiff, Nat.reduceSub, Nat.reduceLT, Int.reduceEq, Int.reduceLT, Int.reduceLE, Int.reduceGT, Int.reduceGE, Int.reduceAdd, Int.reduceSub, Int.reduceMul, Int.reduceNeg, Int.reduceToNat, reduceCtorEq, reduceIte, hlt, ev]

theorem pts_b {L : List Spn} (G : SpOk L) {q : List Int} (hq : q ∈ pts L) : q.length = L.length ∧ ∀ i, i < q.length → 0 ≤ q.getD i 0 ∧ q.getD i 0 ≤ 12 := by
  obtain ⟨h1, h2⟩ := InL_iff.1 (mem_pts.1 hq).1
  refine ⟨h1, fun i hi => ?_⟩
  have := h2 i (by omega)
  have := G.at (p := i) (by omega)
  omega
theorem s94 (H : SeaOk s p b) (K : SeaG s) (V : IsSl 1 intL l v) (hl : l.length = s.pl.length) (hc : ∀ i, i < l.length → 0 ≤ l.getD i 0 ∧ l.getD i 0 < s.bo.length) (st : Bool) : Iso E 94 [seaV s p b, v] st = some (Bo (decide (s.w.hi ≤ lft s l))) := by
  have g := fun st => s95 H K.sp st
  have hle := pts_le K.sp
  have hmem := fun q hq => pts_b K.sp (q := q) hq
  have hsafe : (∀ G ∈ pts s.pl, ovr s l s.w.hi G = false) ↔ s.w.hi ≤ lft s l := (safe_iff K hl (by have := K.w0; have := K.w1; omega)).trans (le_lft K hl K.w2).symm
  obtain ⟨L, hL⟩ : ∃ L, L = pts s.pl := ⟨_, rfl⟩
  rw [← hL] at hle hsafe
  simp only [← hL] at hmem g
  have LL := resLL_is L
  have w0 := K.w0; have w1 := K.w1; have w2 := K.w2
  refine Iso_of (es _ _ _ _) e94 ?_
  simp only [f94, seaV] at g ⊢
  obtain ⟨lv, hlv⟩ : ∃ lv, lv = resLL L := ⟨_, rfl⟩
  rw [← hlv] at LL
  simp only [← hlv] at g
  simp (disch := first | assumption | omega | (simp only [az]; done)) only [ru, eq_self, if_true, if_false, BEq.rfl, binI, AO.row?, splice, fillL, mmAll, loadV, storeV, zeros, Am.rowAt, Am.part, addOff, Nat.reduceAdd, Nat.reduceMul, Nat.reduceLeDiff, Nat.reduceSub, Nat.reduceLT, Int.reduceEq, Int.reduceLT, Int.reduceLE, Int.reduceGT, Int.reduceGE, Int.reduceAdd, Int.reduceSub, Int.reduceMul, Int.reduceNeg, Int.reduceToNat, reduceCtorEq, reduceIte, lenV_sl H.p, lenV_sl H.b, elem_sp H.p, elem_bt H.b, view_sl H.p, view_sl H.b, scalar_sl H.p, scalar_sl H.b, cells_sl H.p, cells_sl H.b, pure_sl H.p, pure_sl H.b, Int.toNat_natCast, g, view_nils]
  refine G_loop_ind (fun m ts h mk => ∃ k : Nat, k ≤ L.length ∧ m = L.length - k ∧ (∀ j, j < k → ovr s l s.w.hi (L.getD j []) = false) ∧ ts.length = 25 ∧ ts.getD 1 .undef = v ∧ ts.getD 2 .undef = .ptr 0 0 ∧ ts.getD 5 .undef = lv ∧ ts.getD 6 .undef = I k ∧ h = [.cells [I s.w.lo, I s.w.hi, p, b] false] ∧ mk = []) ?_ _ _ _ _
    ⟨0, Nat.zero_le _, rfl, fun j h => by omega, rfl, rfl, rfl, rfl, rfl, rfl, rfl⟩
  rintro m ts h mk ih ⟨k, hk, rfl, hall, hl', q1, q2, q5, q6, rfl, rfl⟩
  rw [lit_all hl']
  simp only [lit0, litS, Nat.reduceAdd, q1, q2, q5, q6]
  simp (disch := first | assumption | omega | (simp only [az]; done)) only [ru, eq_self, if_true, if_false, BEq.rfl, binI, AO.row?, splice, fillL, mmAll, loadV, storeV, zeros, Am.rowAt, Am.part, addOff, Nat.reduceAdd, Nat.reduceMul, Nat.reduceLeDiff, Nat.reduceSub, Nat.reduceLT, Int.reduceEq, Int.reduceLT, Int.reduceLE, Int.reduceGT, Int.reduceGE, Int.reduceAdd, Int.reduceSub, Int.reduceMul, Int.reduceNeg, Int.reduceToNat, reduceCtorEq, reduceIte, lenV_sl LL]
  by_cases hlt : (k : Int) < L.length
  case pos =>
    have hk' : k < L.length := by omega
    have mk := getD_memL hk'
    obtain ⟨e1, e2⟩ := hmem _ mk
    have g30 := fun st => s30 H K V (by omega) hc (w := s.w.hi) (by omega) w2 (resL_is (L.getD k [])) e1 e2 st
    simp only [seaV] at g30
    have vr := fun h n => view_sl (resL_is (L.getD k [])) h n
    cases ho : ovr s l s.w.hi (L.getD k [])
    · rw [ho] at g30
      simp (disch := first | assumption | omega | (simp only [az]; done)) only [ru, eq_self, if_true, if_false, BEq.rfl, binI, AO.row?, splice, fillL, mmAll, loadV, storeV, zeros, Am.rowAt, Am.part, addOff, Nat.reduceAdd, Nat.reduceMul, Nat.reduceLeDiff, Nat.reduceSub, Nat.reduceLT, Int.reduceEq, Int.reduceLT, Int.reduceLE, Int.reduceGT, Int.reduceGE, Int.reduceAdd, Int.reduceSub, Int.reduceMul, Int.reduceNeg, Int.reduceToNat, reduceCtorEq, reduceIte, lenV_sl H.p, lenV_sl H.b, elem_sp H.p, elem_bt H.b, view_sl H.p, view_sl H.b, scalar_sl H.p, scalar_sl H.b, cells_sl H.p, cells_sl H.b, pure_sl H.p, pure_sl H.b, Int.toNat_natCast, lenV_sl V, elem_in V, view_sl V, scalar_sl V, cells_sl V, pure_sl V, Int.toNat_natCast, hlt, elem_ll LL, Int.toNat_natCast, vr, g30]
      exact ih (L.length - (k + 1)) _ _ _ (by omega) ⟨k + 1, by omega, rfl, fun j hj => by
        by_cases e : j = k
        · subst e; exact ho
        · exact hall j (by omega), rfl, rfl, rfl, rfl, rfl, rfl, rfl⟩
    · rw [ho] at g30
      have ev : ¬ s.w.hi ≤ lft s l := fun hh => by have := hsafe.2 hh _ mk; rw [ho] at this; cases this
      simp (disch := first | assumption | omega | (simp only [az]; done)) only [ru, eq_self, if_true, if_false, BEq.rfl, binI, AO.row?, splice, fillL, mmAll, loadV, storeV, zeros, Am.rowAt, Am.part, addOff, Nat.reduceAdd, Nat.reduceMul, Nat.reduceLeDiff, Nat.reduceSub, Nat.reduceLT, Int.reduceEq, Int.reduceLT, Int.reduceLE, Int.reduceGT, Int.reduceGE, Int.reduceAdd, Int.reduceSub, Int.reduceMul, Int.reduceNeg, Int.reduceToNat, reduceCtorEq, reduceIte, lenV_sl H.p, lenV_sl H.b, elem_sp H.p, elem_bt H.b, view_sl H.p, view_sl H.b, scalar_sl H.p, scalar_sl H.b, cells_sl H.p, cells_sl H.b, pure_sl H.p, pure_sl H.b, Int.toNat_natCast, lenV_sl V, elem_in V, view_sl V, scalar_sl V, cells_sl V, pure_sl V, Int.toNat_natCast, hlt, elem_ll LL, Int.toNat_natCast, vr, g30, ev, decide_false]
  obtain rfl : k = L.length := by omega
  have ev : s.w.hi ≤ lft s l := hsafe.1 fun q hq => by
    obtain ⟨j, hj, rfl⟩ := mem_getD (d := []) hq
    exact hall j hj
  simp (disch := first | assumption | omega | (simp only [az]; done)) only [ru, eq_self, if_true, if_false, BEq.rfl, binI, AO.row?, splice, fillL, mmAll, loadV, storeV, zeros, Am.rowAt, Am.part, addOff, Nat.reduceAdd, Nat.reduceMul, Nat.reduceLeDiff, Nat.reduceSub, Nat.reduceLT, Int.reduceEq, Int.reduceLT, Int.reduceLE, Int.reduceGT, Int.reduceGE, Int.reduceAdd, Int.reduceSub, Int.reduceMul, Int.reduceNeg, Int.reduceToNat, reduceCtorEq, reduceIte, hlt, ev, decide_true]
end
end Go.Proofs.Ytdmhbefdidmliaa.S

/-
Safe, Lifts and First of both sides: what they answer.
-/
namespace Go.Proofs.Ytdmhbefdidmliaa.S
open Go Go.Am Go.Proofs.Ytdmhbefdidmliaa.T
set_option maxRecDepth 100000
set_option linter.unusedSimpArgs false
set_option linter.unusedVariables false

/-- where a boat is over its load first -/
def frI (s : Sea) (l : List Int) : Nat → Nat
  | 0 => 0
  | k + 1 => if brs s.pl (boat s (l.getD k 0)).c k < lftU s l k then k else frI s l k
theorem frI_spec {s : Sea} {l : List Int} : ∀ {k : Nat}, lftU s l k < 2000 → frI s l k < k ∧ brs s.pl (boat s (l.getD (frI s l k) 0)).c (frI s l k) = lftU s l k ∧ ∀ j, j < frI s l k → lftU s l k < brs s.pl (boat s (l.getD j 0)).c j
  | 0, h => by simp [lftU] at h
  | k + 1, h => by
    rw [lftU] at h ⊢
    by_cases c : brs s.pl (boat s (l.getD k 0)).c k < lftU s l k
    · have e : frI s l (k + 1) = k := by rw [frI, if_pos c]
      have e2 : mn (lftU s l k) (brs s.pl (boat s (l.getD k 0)).c k) = brs s.pl (boat s (l.getD k 0)).c k := by rw [mn, if_pos c]
      rw [e, e2]
      refine ⟨by omega, rfl, fun j hj => ?_⟩
      have := (le_lftU (s := s) (l := l) (x := lftU s l k) lftU_le).1 (Int.le_refl _) j hj
      omega
    · have e : frI s l (k + 1) = frI s l k := by rw [frI, if_neg c]
      have e2 : mn (lftU s l k) (brs s.pl (boat s (l.getD k 0)).c k) = lftU s l k := by rw [mn, if_neg c]
      rw [e2] at h
      rw [e, e2]
      obtain ⟨h1, h2, h3⟩ := frI_spec h
      exact ⟨by omega, h2, h3⟩
theorem frI_uniq {s : Sea} {l : List Int} {k i : Nat} (h : lftU s l k < 2000) (hi : i < k) (e : brs s.pl (boat s (l.getD i 0)).c i = lftU s l k) (hb : ∀ j, j < i → brs s.pl (boat s (l.getD j 0)).c j ≠ lftU s l k) : i = frI s l k := by
  obtain ⟨h1, h2, h3⟩ := frI_spec h
  by_cases c : i < frI s l k
  · have := h3 i c; omega
  · by_cases c2 : frI s l k < i
    · exact absurd h2 (hb _ c2)
    · omega

def saf (s : Sea) (l : List Int) : Int := if s.w.hi ≤ lft s l then 1 else if canB s l then 3 else 2
def safR (s : Sea) (l : List Int) : AV := if s.valid then (if crB s l then .tup [I (saf s l), I 0] else .tup [I 0, I 1]) else .tup [I 0, I 50]
def lifR (s : Sea) (l : List Int) : AV := if s.valid then (if crB s l then .tup [I (lft s l), I 0] else .tup [I 0, I 1]) else .tup [I 0, I 50]
def firR (s : Sea) (l : List Int) : AV := if s.valid then (if crB s l then (if lft s l < 2000 then .tup [I (frI s l l.length), I 0] else .tup [I 0, I 3]) else .tup [I 0, I 1]) else .tup [I 0, I 50]
theorem cr_at {s : Sea} {l : List Int} (h : crB s l = true) : l.length = s.pl.length ∧ ∀ i, i < l.length → 0 ≤ l.getD i 0 ∧ l.getD i 0 < s.bo.length :=
  ⟨(crB_iff.1 h).1, fun i hi => isCr_at (crB_iff.1 h) hi⟩

section
variable {s : Sea} {p b : AV} {l : List Int} {v : AV}

set_option maxHeartbeats 1000000 in
theorem s60 (H : SeaOk s p b) (V : IsSl 1 intL l v) (hl : l.length ≤ 41) (st : Bool) : Iso E 60 [seaV s p b, v] st = some (safR s l) := by
  have g1 := fun st => s93 H V hl st
  refine Iso_of (es _ _ _ _) e60 ?_
  simp only [f60, seaV, safR, saf] at g1 ⊢
  cases hv : s.valid
  · simp (disch := first | assumption | omega | (simp only [az]; done)) only [ru, eq_self, if_true, if_false, BEq.rfl, binI, AO.row?, splice, fillL, mmAll, loadV, storeV, zeros, Am.rowAt, Am.part, addOff, Nat.reduceAdd, Nat.reduceMul, Nat.reduceLeDiff, Nat.reduceSub, Nat.reduceLT, Int.reduceEq, Int.reduceLT, Int.reduceLE, Int.reduceGT, Int.reduceGE, Int.reduceAdd, Int.reduceSub, Int.reduceMul, Int.reduceNeg, Int.reduceToNat, reduceCtorEq, reduceIte, lenV_sl H.p, lenV_sl H.b, elem_sp H.p, elem_bt H.b, view_sl H.p, view_sl H.b, scalar_sl H.p, scalar_sl H.b, cells_sl H.p, cells_sl H.b, pure_sl H.p, pure_sl H.b, Int.toNat_natCast, lenV_sl V, elem_in V, view_sl V, scalar_sl V, cells_sl V, pure_sl V, Int.toNat_natCast, g1, hv, aE, Bool.false_eq_true]
  cases hc : crB s l
  · simp (disch := first | assumption | omega | (simp only [az]; done)) only [ru, eq_self, if_true, if_false, BEq.rfl, binI, AO.row?, splice, fillL, mmAll, loadV, storeV, zeros, Am.rowAt, Am.part, addOff, Nat.reduceAdd, Nat.reduceMul, Nat.reduceLeDiff, Nat.reduceSub, Nat.reduceLT, Int.reduceEq, Int.reduceLT, Int.reduceLE, Int.reduceGT, Int.reduceGE, Int.reduceAdd, Int.reduceSub, Int.reduceMul, Int.reduceNeg, Int.reduceToNat, reduceCtorEq, reduceIte, lenV_sl H.p, lenV_sl H.b, elem_sp H.p, elem_bt H.b, view_sl H.p, view_sl H.b, scalar_sl H.p, scalar_sl H.b, cells_sl H.p, cells_sl H.b, pure_sl H.p, pure_sl H.b, Int.toNat_natCast, lenV_sl V, elem_in V, view_sl V, scalar_sl V, cells_sl V, pure_sl V, Int.toNat_natCast, g1, hv, hc, aE, Bool.false_eq_true]
  obtain ⟨hlen, hcr⟩ := cr_at hc
  have K := (valid_good hv).1
  have g2 := fun st => s94 H K V hlen hcr st
  simp only [seaV] at g2
  by_cases hh : s.w.hi ≤ lft s l
  · simp (disch := first | assumption | omega | (simp only [az]; done)) only [ru, eq_self, if_true, if_false, BEq.rfl, binI, AO.row?, splice, fillL, mmAll, loadV, storeV, zeros, Am.rowAt, Am.part, addOff, Nat.reduceAdd, Nat.reduceMul, Nat.reduceLeDiff, Nat.reduceSub, Nat.reduceLT, Int.reduceEq, Int.reduceLT, Int.reduceLE, Int.reduceGT, Int.reduceGE, Int.reduceAdd, Int.reduceSub, Int.reduceMul, Int.reduceNeg, Int.reduceToNat, reduceCtorEq, reduceIte, lenV_sl H.p, lenV_sl H.b, elem_sp H.p, elem_bt H.b, view_sl H.p, view_sl H.b, scalar_sl H.p, scalar_sl H.b, cells_sl H.p, cells_sl H.b, pure_sl H.p, pure_sl H.b, Int.toNat_natCast, lenV_sl V, elem_in V, view_sl V, scalar_sl V, cells_sl V, pure_sl V, Int.toNat_natCast, g1, g2, hv, hc, aE, hh, decide_true]
  have g := fun st => s95 H K.sp st
  have hle := pts_le K.sp
  have hmem := fun q hq => pts_b K.sp (q := q) hq
  have hcan := can_iff K hlen
  obtain ⟨L, hL⟩ : ∃ L, L = pts s.pl := ⟨_, rfl⟩
  rw [← hL] at hle hcan
  simp only [← hL] at hmem g
  have LL := resLL_is L
  have w0 := K.w0; have w1 := K.w1; have w2 := K.w2
  simp only [seaV] at g
  obtain ⟨lv, hlv⟩ : ∃ lv, lv = resLL L := ⟨_, rfl⟩
  rw [← hlv] at LL
  simp only [← hlv] at g
  simp (disch := first | assumption | omega | (simp only [az]; done)) only [ru, eq_self, if_true, if_false, BEq.rfl, binI, AO.row?, splice, fillL, mmAll, loadV, storeV, zeros, Am.rowAt, Am.part, addOff, Nat.reduceAdd, Nat.reduceMul, Nat.reduceLeDiff, Nat.reduceSub, Nat.reduceLT, Int.reduceEq, Int.reduceLT, Int.reduceLE, Int.reduceGT, Int.reduceGE, Int.reduceAdd, Int.reduceSub, Int.reduceMul, Int.reduceNeg, Int.reduceToNat, reduceCtorEq, reduceIte, lenV_sl H.p, lenV_sl H.b, elem_sp H.p, elem_bt H.b, view_sl H.p, view_sl H.b, scalar_sl H.p, scalar_sl H.b, cells_sl H.p, cells_sl H.b, pure_sl H.p, pure_sl H.b, Int.toNat_natCast, lenV_sl V, elem_in V, view_sl V, scalar_sl V, cells_sl V, pure_sl V, Int.toNat_natCast, g1, g2, g, hv, hc, aE, hh, decide_false, view_nils, Bool.false_eq_true]
  refine G_loop_ind (fun m ts h mk => ∃ k : Nat, k ≤ L.length ∧ m = L.length - k ∧ (∀ j, j < k → ovr s l s.w.lo (L.getD j []) = true) ∧ ts.length = 37 ∧ ts.getD 1 .undef = v ∧ ts.getD 2 .undef = .ptr 0 0 ∧ ts.getD 7 .undef = lv ∧ ts.getD 8 .undef = I k ∧ h = [.cells [I s.w.lo, I s.w.hi, p, b] false] ∧ mk = []) ?_ _ _ _ _
    ⟨0, Nat.zero_le _, rfl, fun j h => by omega, rfl, rfl, rfl, rfl, rfl, rfl, rfl⟩
  rintro m ts h mk ih ⟨k, hk, rfl, hall, hl', q1, q2, q7, q8, rfl, rfl⟩
  rw [lit_all hl']
  simp only [lit0, litS, Nat.reduceAdd, q1, q2, q7, q8]
  simp (disch := first | assumption | omega | (simp only [az]; done)) only [ru, eq_self, if_true, if_false, BEq.rfl, binI, AO.row?, splice, fillL, mmAll, loadV, storeV, zeros, Am.rowAt, Am.part, addOff, Nat.reduceAdd, Nat.reduceMul, Nat.reduceLeDiff, Nat.reduceSub, Nat.reduceLT, Int.reduceEq, Int.reduceLT, Int.reduceLE, Int.reduceGT, Int.reduceGE, Int.reduceAdd, Int.reduceSub, Int.reduceMul, Int.reduceNeg, Int.reduceToNat, reduceCtorEq, reduceIte, lenV_sl LL]
  by_cases hlt : (k : Int) < L.length
  case pos =>
    have hk' : k < L.length := by omega
    have mk := getD_memL hk'
    obtain ⟨e1, e2⟩ := hmem _ mk
    have g30 := fun st => s30 H K V (by omega) hcr (w := s.w.lo) w0 (by omega) (resL_is (L.getD k [])) e1 e2 st
    simp only [seaV] at g30
    have vr := fun h n => view_sl (resL_is (L.getD k [])) h n
    cases ho : ovr s l s.w.lo (L.getD k [])
    · rw [ho] at g30
      have ev : canB s l = true := hcan.2 ⟨_, mk, ho⟩
      simp (disch := first | assumption | omega | (simp only [az]; done)) only [ru, eq_self, if_true, if_false, BEq.rfl, binI, AO.row?, splice, fillL, mmAll, loadV, storeV, zeros, Am.rowAt, Am.part, addOff, Nat.reduceAdd, Nat.reduceMul, Nat.reduceLeDiff, Nat.reduceSub, Nat.reduceLT, Int.reduceEq, Int.reduceLT, Int.reduceLE, Int.reduceGT, Int.reduceGE, Int.reduceAdd, Int.reduceSub, Int.reduceMul, Int.reduceNeg, Int.reduceToNat, reduceCtorEq, reduceIte, lenV_sl H.p, lenV_sl H.b, elem_sp H.p, elem_bt H.b, view_sl H.p, view_sl H.b, scalar_sl H.p, scalar_sl H.b, cells_sl H.p, cells_sl H.b, pure_sl H.p, pure_sl H.b, Int.toNat_natCast, lenV_sl V, elem_in V, view_sl V, scalar_sl V, cells_sl V, pure_sl V, Int.toNat_natCast, hlt, elem_ll LL, Int.toNat_natCast, vr, g30, ev, hh, Bool.not_false]
    · rw [ho] at g30
      simp (disch := first | assumption | omega | (simp only [az]; done)) only [ru, eq_self, if_true, if_false, BEq.rfl, binI, AO.row?, splice, fillL, mmAll, loadV, storeV, zeros, Am.rowAt, Am.part, addOff, Nat.reduceAdd, Nat.reduceMul, Nat.reduceLeDiff, Nat.reduceSub, Nat.reduceLT, Int.reduceEq, Int.reduceLT, Int.reduceLE, Int.reduceGT, Int.reduceGE, Int.reduceAdd, Int.reduceSub, Int.reduceMul, Int.reduceNeg, Int.reduceToNat, reduceCtorEq, reduceIte, lenV_sl H.p, lenV_sl H.b, elem_sp H.p, elem_bt H.b, view_sl H.p, view_sl H.b, scalar_sl H.p, scalar_sl H.b, cells_sl H.p, cells_sl H.b, pure_sl H.p, pure_sl H.b, Int.toNat_natCast, lenV_sl V, elem_in V, view_sl V, scalar_sl V, cells_sl V, pure_sl V, Int.toNat_natCast, hlt, elem_ll LL, Int.toNat_natCast, vr, g30, Bool.not_true]
      exact ih (L.length - (k + 1)) _ _ _ (by omega) ⟨k + 1, by omega, rfl, fun j hj => by
        by_cases e : j = k
        · subst e; exact ho
        · exact hall j (by omega), rfl, rfl, rfl, rfl, rfl, rfl, rfl⟩
  obtain rfl : k = L.length := by omega
  have ev : canB s l = false := by
    cases hcb : canB s l with
    | false => rfl
    | true =>
      obtain ⟨q, hq, ho⟩ := hcan.1 hcb
      obtain ⟨j, hj, rfl⟩ := mem_getD (d := []) hq
      have := hall j hj
      rw [ho] at this; cases this
  simp (disch := first | assumption | omega | (simp only [az]; done)) only [ru, eq_self, if_true, if_false, BEq.rfl, binI, AO.row?, splice, fillL, mmAll, loadV, storeV, zeros, Am.rowAt, Am.part, addOff, Nat.reduceAdd, Nat.reduceMul, Nat.reduceLeDiff, Nat.reduceSub, Nat.reduceLT, Int.reduceEq, Int.reduceLT, Int.reduceLE, Int.reduceGT, Int.reduceGE, Int.reduceAdd, Int.reduceSub, Int.reduceMul, Int.reduceNeg, Int.reduceToNat, reduceCtorEq, reduceIte, hlt, ev, hh, Bool.false_eq_true]

set_option maxHeartbeats 1000000 in
theorem s80 (H : SeaOk s p b) (K : SeaG s) (V : IsSl 1 intL l v) (hl : l.length = s.pl.length) (hc : ∀ i, i < l.length → 0 ≤ l.getD i 0 ∧ l.getD i 0 < s.bo.length) (st : Bool) : Iso E 80 [seaV s p b, v] st = some (Bo (canB s l)) := by
  have hs := H.sp
  have w0 := K.w0; have w1 := K.w1; have w2 := K.w2
  refine Iso_of (es _ _ _ _) e80 ?_
  simp only [f80, seaV]
  simp (disch := first | assumption | omega | (simp only [az]; done)) only [ru, eq_self, if_true, if_false, BEq.rfl, binI, AO.row?, splice, fillL, mmAll, loadV, storeV, zeros, Am.rowAt, Am.part, addOff, Nat.reduceAdd, Nat.reduceMul, Nat.reduceLeDiff, Nat.reduceSub, Nat.reduceLT, Int.reduceEq, Int.reduceLT, Int.reduceLE, Int.reduceGT, Int.reduceGE, Int.reduceAdd, Int.reduceSub, Int.reduceMul, Int.reduceNeg, Int.reduceToNat, reduceCtorEq, reduceIte, lenV_sl V, elem_in V, view_sl V, scalar_sl V, cells_sl V, pure_sl V, Int.toNat_natCast]
  have hcap : ∀ i, i < l.length → 0 ≤ capP s l i ∧ capP s l i ≤ 12 := fun i hi => by
    have a := K.sp.at (p := i) (by omega)
    have c2 := boat_ok K (l.getD i 0)
    have h1 := (capP_iff K (l := l) (i := i) (x := capP s l i)).1 (Int.le_refl _)
    exact ⟨(capP_iff K).2 ⟨by omega, by omega⟩, by omega⟩
  have hsum : ∀ i, i ≤ l.length → 0 ≤ sm ((List.range i).map (capP s l)) ∧ sm ((List.range i).map (capP s l)) ≤ 12 * i := by
    intro i
    induction i with
    | zero => intro _; simp [sm]
    | succ i ih =>
      intro hi
      have := ih (by omega)
      have := hcap i (by omega)
      rw [rmap_succ, sm_app]
      simp only [sm]; omega
  refine G_loop_ind (fun m ts h mk => ∃ i : Nat, i ≤ l.length ∧ m = l.length - i ∧ (List.range i).all (fun i => decide ((s.pl.getD i default).lo ≤ capP s l i)) = true ∧ ts.length = 57 ∧ ts.getD 2 .undef = .ptr 0 0 ∧ ts.getD 5 .undef = I (sm ((List.range i).map (capP s l))) ∧ ts.getD 10 .undef = v ∧ ts.getD 11 .undef = I l.length ∧ ts.getD 12 .undef = I i ∧ h = [.cells [I s.w.lo, I s.w.hi, p, b] false] ∧ mk = []) ?_ _ _ _ _
    ⟨0, Nat.zero_le _, rfl, rfl, rfl, rfl, rfl, rfl, rfl, rfl, rfl, rfl⟩
  rintro m ts h mk ih ⟨i, hi, rfl, hall, hl', q2, q5, q10, q11, q12, rfl, rfl⟩
  rw [lit_all hl']
  simp only [lit0, litS, Nat.reduceAdd, q2, q5, q10, q11, q12]
  simp (disch := first | assumption | omega | (simp only [az]; done)) only [ru, eq_self, if_true, if_false, BEq.rfl, binI, AO.row?, splice, fillL, mmAll, loadV, storeV, zeros, Am.rowAt, Am.part, addOff, Nat.reduceAdd, Nat.reduceMul, Nat.reduceLeDiff, Nat.reduceSub, Nat.reduceLT, Int.reduceEq, Int.reduceLT, Int.reduceLE, Int.reduceGT, Int.reduceGE, Int.reduceAdd, Int.reduceSub, Int.reduceMul, Int.reduceNeg, Int.reduceToNat, reduceCtorEq, reduceIte]
  by_cases hlt : (i : Int) < l.length
  case pos =>
    have hi' : i < l.length := by omega
    have hlt2 : (i : Int) < s.pl.length := by omega
    have hx := hc i hi'
    have c2 := boat_ok K (l.getD i 0)
    have eb : s.bo.getD (l.getD i 0).toNat default = boat s (l.getD i 0) := rfl
    have b1 := hsum i hi
    have b2 := hcap i hi'
    have esm : sm ((List.range (i + 1)).map (capP s l)) = sm ((List.range i).map (capP s l)) + capP s l i := by rw [rmap_succ, sm_app]; simp [sm]
    have a := K.sp.at (p := i) (by omega)
    have hx0 := hx.1; have hx1 := hx.2
    by_cases hw : s.w.lo > 0
    · have hd : (12 * (boat s (l.getD i 0)).c).tdiv s.w.lo = 12 * (boat s (l.getD i 0)).c / s.w.lo := Int.tdiv_eq_ediv_of_nonneg (by omega)
      have hw' : ¬ s.w.lo = 0 := by omega
      have d0 : 0 ≤ 12 * (boat s (l.getD i 0)).c / s.w.lo := Int.ediv_nonneg (by omega) (by omega)
      have d1 : 12 * (boat s (l.getD i 0)).c / s.w.lo ≤ 12 * (boat s (l.getD i 0)).c := Int.ediv_le_self _ (by omega)
      have ec : mmx false (s.pl.getD i default).hi (12 * (boat s (l.getD i 0)).c / s.w.lo) = capP s l i := by rw [capP, if_pos hw]; rfl
      by_cases hcc : capP s l i < (s.pl.getD i default).lo
      · have ev : canB s l = false := by
          have := range_not (p := fun i => decide ((s.pl.getD i default).lo ≤ capP s l i)) (N := l.length) hi' (decide_eq_false (by omega))
          simp only [canB, this, Bool.false_and]
        obtain ⟨x, hx'⟩ : ∃ x, x = l.getD i 0 := ⟨_, rfl⟩
        simp only [← hx'] at hx0 hx1 eb c2 hd d0 d1 ec
        simp (disch := first | assumption | omega | (simp only [az]; done)) only [ru, eq_self, if_true, if_false, BEq.rfl, binI, AO.row?, splice, fillL, mmAll, loadV, storeV, zeros, Am.rowAt, Am.part, addOff, Nat.reduceAdd, Nat.reduceMul, Nat.reduceLeDiff, Nat.reduceSub, Nat.reduceLT, Int.reduceEq, Int.reduceLT, Int.reduceLE, Int.reduceGT, Int.reduceGE, Int.reduceAdd, Int.reduceSub, Int.reduceMul, Int.reduceNeg, Int.reduceToNat, reduceCtorEq, reduceIte, lenV_sl H.p, lenV_sl H.b, elem_sp H.p, elem_bt H.b, view_sl H.p, view_sl H.b, scalar_sl H.p, scalar_sl H.b, cells_sl H.p, cells_sl H.b, pure_sl H.p, pure_sl H.b, Int.toNat_natCast, lenV_sl V, elem_in V, view_sl V, scalar_sl V, cells_sl V, pure_sl V, Int.toNat_natCast, hlt, hlt2, ← hx', eb, hw, hw', hd, ec, hcc, ev]
      · have hr := range_all_succ hall (decide_eq_true (p := (s.pl.getD i default).lo ≤ capP s l i) (by omega))
        obtain ⟨x, hx'⟩ : ∃ x, x = l.getD i 0 := ⟨_, rfl⟩
        simp only [← hx'] at hx0 hx1 eb c2 hd d0 d1 ec
        simp (disch := first | assumption | omega | (simp only [az]; done)) only [ru, eq_self, if_true, if_false, BEq.rfl, binI, AO.row?, splice, fillL, mmAll, loadV, storeV, zeros, Am.rowAt, Am.part, addOff, Nat.reduceAdd, Nat.reduceMul, Nat.reduceLeDiff, Nat.reduceSub, Nat.reduceLT, Int.reduceEq, Int.reduceLT, Int.reduceLE, Int.reduceGT, Int.reduceGE, Int.reduceAdd, Int.reduceSub, Int.reduceMul, Int.reduceNeg, Int.reduceToNat, reduceCtorEq, reduceIte, lenV_sl H.p, lenV_sl H.b, elem_sp H.p, elem_bt H.b, view_sl H.p, view_sl H.b, scalar_sl H.p, scalar_sl H.b, cells_sl H.p, cells_sl H.b, pure_sl H.p, pure_sl H.b, Int.toNat_natCast, lenV_sl V, elem_in V, view_sl V, scalar_sl V, cells_sl V, pure_sl V, Int.toNat_natCast, hlt, hlt2, ← hx', eb, hw, hw', hd, ec, hcc]
        exact ih (l.length - (i + 1)) _ _ _ (by omega) ⟨i + 1, by omega, rfl, hr, rfl, rfl, by rw [esm]; rfl, rfl, rfl, rfl, rfl, rfl⟩
    · have ec : (s.pl.getD i default).hi = capP s l i := by rw [capP, if_neg hw]
      by_cases hcc : capP s l i < (s.pl.getD i default).lo
      · omega
      · have hr := range_all_succ hall (decide_eq_true (p := (s.pl.getD i default).lo ≤ capP s l i) (by omega))
        simp (disch := first | assumption | omega | (simp only [az]; done)) only [ru, eq_self, if_true, if_false, BEq.rfl, binI, AO.row?, splice, fillL, mmAll, loadV, storeV, zeros, Am.rowAt, Am.part, addOff, Nat.reduceAdd, Nat.reduceMul, Nat.reduceLeDiff, Nat.reduceSub, Nat.reduceLT, Int.reduceEq, Int.reduceLT, Int.reduceLE, Int.reduceGT, Int.reduceGE, Int.reduceAdd, Int.reduceSub, Int.reduceMul, Int.reduceNeg, Int.reduceToNat, reduceCtorEq, reduceIte, lenV_sl H.p, lenV_sl H.b, elem_sp H.p, elem_bt H.b, view_sl H.p, view_sl H.b, scalar_sl H.p, scalar_sl H.b, cells_sl H.p, cells_sl H.b, pure_sl H.p, pure_sl H.b, Int.toNat_natCast, lenV_sl V, elem_in V, view_sl V, scalar_sl V, cells_sl V, pure_sl V, Int.toNat_natCast, hlt, hlt2, hw, ec, hcc]
        exact ih (l.length - (i + 1)) _ _ _ (by omega) ⟨i + 1, by omega, rfl, hr, rfl, rfl, by rw [esm]; rfl, rfl, rfl, rfl, rfl, rfl⟩
  obtain rfl : i = l.length := by omega
  have ev : canB s l = decide (12 ≤ sm ((List.range l.length).map (capP s l))) := by simp only [canB, hall, Bool.true_and]
  rw [ev]
  simp (disch := first | assumption | omega | (simp only [az]; done)) only [ru, eq_self, if_true, if_false, BEq.rfl, binI, AO.row?, splice, fillL, mmAll, loadV, storeV, zeros, Am.rowAt, Am.part, addOff, Nat.reduceAdd, Nat.reduceMul, Nat.reduceLeDiff, Nat.reduceSub, Nat.reduceLT, Int.reduceEq, Int.reduceLT, Int.reduceLE, Int.reduceGT, Int.reduceGE, Int.reduceAdd, Int.reduceSub, Int.reduceMul, Int.reduceNeg, Int.reduceToNat, reduceCtorEq, reduceIte, hlt, ge_iff_le]

theorem s27 (H : SeaOk s p b) (V : IsSl 1 intL l v) (hl : l.length ≤ 41) (st : Bool) : Iso E 27 [seaV s p b, v] st = some (safR s l) := by
  have g1 := fun st => s78 H V hl st
  refine Iso_of (es _ _ _ _) e27 ?_
  simp only [f27, seaV, safR, saf] at g1 ⊢
  cases hv : s.valid
  · simp (disch := first | assumption | omega | (simp only [az]; done)) only [ru, eq_self, if_true, if_false, BEq.rfl, binI, AO.row?, splice, fillL, mmAll, loadV, storeV, zeros, Am.rowAt, Am.part, addOff, Nat.reduceAdd, Nat.reduceMul, Nat.reduceLeDiff, Nat.reduceSub, Nat.reduceLT, Int.reduceEq, Int.reduceLT, Int.reduceLE, Int.reduceGT, Int.reduceGE, Int.reduceAdd, Int.reduceSub, Int.reduceMul, Int.reduceNeg, Int.reduceToNat, reduceCtorEq, reduceIte, lenV_sl H.p, lenV_sl H.b, elem_sp H.p, elem_bt H.b, view_sl H.p, view_sl H.b, scalar_sl H.p, scalar_sl H.b, cells_sl H.p, cells_sl H.b, pure_sl H.p, pure_sl H.b, Int.toNat_natCast, lenV_sl V, elem_in V, view_sl V, scalar_sl V, cells_sl V, pure_sl V, Int.toNat_natCast, g1, hv, aE, Bool.false_eq_true]
  cases hc : crB s l
  · simp (disch := first | assumption | omega | (simp only [az]; done)) only [ru, eq_self, if_true, if_false, BEq.rfl, binI, AO.row?, splice, fillL, mmAll, loadV, storeV, zeros, Am.rowAt, Am.part, addOff, Nat.reduceAdd, Nat.reduceMul, Nat.reduceLeDiff, Nat.reduceSub, Nat.reduceLT, Int.reduceEq, Int.reduceLT, Int.reduceLE, Int.reduceGT, Int.reduceGE, Int.reduceAdd, Int.reduceSub, Int.reduceMul, Int.reduceNeg, Int.reduceToNat, reduceCtorEq, reduceIte, lenV_sl H.p, lenV_sl H.b, elem_sp H.p, elem_bt H.b, view_sl H.p, view_sl H.b, scalar_sl H.p, scalar_sl H.b, cells_sl H.p, cells_sl H.b, pure_sl H.p, pure_sl H.b, Int.toNat_natCast, lenV_sl V, elem_in V, view_sl V, scalar_sl V, cells_sl V, pure_sl V, Int.toNat_natCast, g1, hv, hc, aE, Bool.false_eq_true]
  obtain ⟨hlen, hcr⟩ := cr_at hc
  have K := (valid_good hv).1
  have g2 := fun st => s79 H K V (by omega) hcr st
  have g3 := fun st => s80 H K V hlen hcr st
  simp only [seaV] at g2 g3
  by_cases hh : s.w.hi ≤ lft s l
  · simp (disch := first | assumption | omega | (simp only [az]; done)) only [ru, eq_self, if_true, if_false, BEq.rfl, binI, AO.row?, splice, fillL, mmAll, loadV, storeV, zeros, Am.rowAt, Am.part, addOff, Nat.reduceAdd, Nat.reduceMul, Nat.reduceLeDiff, Nat.reduceSub, Nat.reduceLT, Int.reduceEq, Int.reduceLT, Int.reduceLE, Int.reduceGT, Int.reduceGE, Int.reduceAdd, Int.reduceSub, Int.reduceMul, Int.reduceNeg, Int.reduceToNat, reduceCtorEq, reduceIte, lenV_sl H.p, lenV_sl H.b, elem_sp H.p, elem_bt H.b, view_sl H.p, view_sl H.b, scalar_sl H.p, scalar_sl H.b, cells_sl H.p, cells_sl H.b, pure_sl H.p, pure_sl H.b, Int.toNat_natCast, lenV_sl V, elem_in V, view_sl V, scalar_sl V, cells_sl V, pure_sl V, Int.toNat_natCast, g1, g2, hv, hc, aE, hh, decide_true]
  cases hcb : canB s l
  · simp (disch := first | assumption | omega | (simp only [az]; done)) only [ru, eq_self, if_true, if_false, BEq.rfl, binI, AO.row?, splice, fillL, mmAll, loadV, storeV, zeros, Am.rowAt, Am.part, addOff, Nat.reduceAdd, Nat.reduceMul, Nat.reduceLeDiff, Nat.reduceSub, Nat.reduceLT, Int.reduceEq, Int.reduceLT, Int.reduceLE, Int.reduceGT, Int.reduceGE, Int.reduceAdd, Int.reduceSub, Int.reduceMul, Int.reduceNeg, Int.reduceToNat, reduceCtorEq, reduceIte, lenV_sl H.p, lenV_sl H.b, elem_sp H.p, elem_bt H.b, view_sl H.p, view_sl H.b, scalar_sl H.p, scalar_sl H.b, cells_sl H.p, cells_sl H.b, pure_sl H.p, pure_sl H.b, Int.toNat_natCast, lenV_sl V, elem_in V, view_sl V, scalar_sl V, cells_sl V, pure_sl V, Int.toNat_natCast, g1, g2, g3, hv, hc, aE, hh, hcb, decide_false, Bool.not_false, Bool.false_eq_true]
  · simp (disch := first | assumption | omega | (simp only [az]; done)) only [ru, eq_self, if_true, if_false, BEq.rfl, binI, AO.row?, splice, fillL, mmAll, loadV, storeV, zeros, Am.rowAt, Am.part, addOff, Nat.reduceAdd, Nat.reduceMul, Nat.reduceLeDiff, Nat.reduceSub, Nat.reduceLT, Int.reduceEq, Int.reduceLT, Int.reduceLE, Int.reduceGT, Int.reduceGE, Int.reduceAdd, Int.reduceSub, Int.reduceMul, Int.reduceNeg, Int.reduceToNat, reduceCtorEq, reduceIte, lenV_sl H.p, lenV_sl H.b, elem_sp H.p, elem_bt H.b, view_sl H.p, view_sl H.b, scalar_sl H.p, scalar_sl H.b, cells_sl H.p, cells_sl H.b, pure_sl H.p, pure_sl H.b, Int.toNat_natCast, lenV_sl V, elem_in V, view_sl V, scalar_sl V, cells_sl V, pure_sl V, Int.toNat_natCast, g1, g2, g3, hv, hc, aE, hh, hcb, decide_false, Bool.not_true]
theorem s61 (H : SeaOk s p b) (V : IsSl 1 intL l v) (hl : l.length ≤ 41) (st : Bool) : Iso E 61 [seaV s p b, v] st = some (lifR s l) := by
  have g1 := fun st => s78 H V hl st
  refine Iso_of (es _ _ _ _) e61 ?_
  simp only [f61, seaV, lifR] at g1 ⊢
  cases hv : s.valid
  · simp (disch := first | assumption | omega | (simp only [az]; done)) only [ru, eq_self, if_true, if_false, BEq.rfl, binI, AO.row?, splice, fillL, mmAll, loadV, storeV, zeros, Am.rowAt, Am.part, addOff, Nat.reduceAdd, Nat.reduceMul, Nat.reduceLeDiff, Nat.reduceSub, Nat.reduceLT, Int.reduceEq, Int.reduceLT, Int.reduceLE, Int.reduceGT, Int.reduceGE, Int.reduceAdd, Int.reduceSub, Int.reduceMul, Int.reduceNeg, Int.reduceToNat, reduceCtorEq, reduceIte, lenV_sl H.p, lenV_sl H.b, elem_sp H.p, elem_bt H.b, view_sl H.p, view_sl H.b, scalar_sl H.p, scalar_sl H.b, cells_sl H.p, cells_sl H.b, pure_sl H.p, pure_sl H.b, Int.toNat_natCast, lenV_sl V, elem_in V, view_sl V, scalar_sl V, cells_sl V, pure_sl V, Int.toNat_natCast, g1, hv, aE, Bool.false_eq_true]
  cases hc : crB s l
  · simp (disch := first | assumption | omega | (simp only [az]; done)) only [ru, eq_self, if_true, if_false, BEq.rfl, binI, AO.row?, splice, fillL, mmAll, loadV, storeV, zeros, Am.rowAt, Am.part, addOff, Nat.reduceAdd, Nat.reduceMul, Nat.reduceLeDiff, Nat.reduceSub, Nat.reduceLT, Int.reduceEq, Int.reduceLT, Int.reduceLE, Int.reduceGT, Int.reduceGE, Int.reduceAdd, Int.reduceSub, Int.reduceMul, Int.reduceNeg, Int.reduceToNat, reduceCtorEq, reduceIte, lenV_sl H.p, lenV_sl H.b, elem_sp H.p, elem_bt H.b, view_sl H.p, view_sl H.b, scalar_sl H.p, scalar_sl H.b, cells_sl H.p, cells_sl H.b, pure_sl H.p, pure_sl H.b, Int.toNat_natCast, lenV_sl V, elem_in V, view_sl V, scalar_sl V, cells_sl V, pure_sl V, Int.toNat_natCast, g1, hv, hc, aE, Bool.false_eq_true]
  obtain ⟨hlen, hcr⟩ := cr_at hc
  have g2 := fun st => s96 H (valid_good hv).1 V (by omega) hcr st
  simp only [seaV] at g2
  simp (disch := first | assumption | omega | (simp only [az]; done)) only [ru, eq_self, if_true, if_false, BEq.rfl, binI, AO.row?, splice, fillL, mmAll, loadV, storeV, zeros, Am.rowAt, Am.part, addOff, Nat.reduceAdd, Nat.reduceMul, Nat.reduceLeDiff, Nat.reduceSub, Nat.reduceLT, Int.reduceEq, Int.reduceLT, Int.reduceLE, Int.reduceGT, Int.reduceGE, Int.reduceAdd, Int.reduceSub, Int.reduceMul, Int.reduceNeg, Int.reduceToNat, reduceCtorEq, reduceIte, lenV_sl H.p, lenV_sl H.b, elem_sp H.p, elem_bt H.b, view_sl H.p, view_sl H.b, scalar_sl H.p, scalar_sl H.b, cells_sl H.p, cells_sl H.b, pure_sl H.p, pure_sl H.b, Int.toNat_natCast, lenV_sl V, elem_in V, view_sl V, scalar_sl V, cells_sl V, pure_sl V, Int.toNat_natCast, g1, g2, hv, hc, aE]
theorem s62 (H : SeaOk s p b) (V : IsSl 1 intL l v) (hl : l.length ≤ 41) (st : Bool) : Iso E 62 [seaV s p b, v] st = some (lifR s l) := by
  have g1 := fun st => s93 H V hl st
  refine Iso_of (es _ _ _ _) e62 ?_
  simp only [f62, seaV, lifR] at g1 ⊢
  cases hv : s.valid
  · simp (disch := first | assumption | omega | (simp only [az]; done)) only [ru, eq_self, if_true, if_false, BEq.rfl, binI, AO.row?, splice, fillL, mmAll, loadV, storeV, zeros, Am.rowAt, Am.part, addOff, Nat.reduceAdd, Nat.reduceMul, Nat.reduceLeDiff, Nat.reduceSub, Nat.reduceLT, Int.reduceEq, Int.reduceLT, Int.reduceLE, Int.reduceGT, Int.reduceGE, Int.reduceAdd, Int.reduceSub, Int.reduceMul, Int.reduceNeg, Int.reduceToNat, reduceCtorEq, reduceIte, lenV_sl H.p, lenV_sl H.b, elem_sp H.p, elem_bt H.b, view_sl H.p, view_sl H.b, scalar_sl H.p, scalar_sl H.b, cells_sl H.p, cells_sl H.b, pure_sl H.p, pure_sl H.b, Int.toNat_natCast, lenV_sl V, elem_in V, view_sl V, scalar_sl V, cells_sl V, pure_sl V, Int.toNat_natCast, g1, hv, aE, Bool.false_eq_true]
  cases hc : crB s l
  · simp (disch := first | assumption | omega | (simp only [az]; done)) only [ru, eq_self, if_true, if_false, BEq.rfl, binI, AO.row?, splice, fillL, mmAll, loadV, storeV, zeros, Am.rowAt, Am.part, addOff, Nat.reduceAdd, Nat.reduceMul, Nat.reduceLeDiff, Nat.reduceSub, Nat.reduceLT, Int.reduceEq, Int.reduceLT, Int.reduceLE, Int.reduceGT, Int.reduceGE, Int.reduceAdd, Int.reduceSub, Int.reduceMul, Int.reduceNeg, Int.reduceToNat, reduceCtorEq, reduceIte, lenV_sl H.p, lenV_sl H.b, elem_sp H.p, elem_bt H.b, view_sl H.p, view_sl H.b, scalar_sl H.p, scalar_sl H.b, cells_sl H.p, cells_sl H.b, pure_sl H.p, pure_sl H.b, Int.toNat_natCast, lenV_sl V, elem_in V, view_sl V, scalar_sl V, cells_sl V, pure_sl V, Int.toNat_natCast, g1, hv, hc, aE, Bool.false_eq_true]
  obtain ⟨hlen, hcr⟩ := cr_at hc
  have K := (valid_good hv).1
  have g3 := fun st => s98 H K.sp st
  have g2 := fun st => s97 H K V (by omega) hcr (resL_is (shs s)) st
  simp only [seaV] at g2 g3
  obtain ⟨u, hu⟩ : ∃ u, u = resL (shs s) := ⟨_, rfl⟩
  have U := resL_is (shs s)
  rw [← hu] at U
  simp only [← hu] at g2 g3
  simp (disch := first | assumption | omega | (simp only [az]; done)) only [ru, eq_self, if_true, if_false, BEq.rfl, binI, AO.row?, splice, fillL, mmAll, loadV, storeV, zeros, Am.rowAt, Am.part, addOff, Nat.reduceAdd, Nat.reduceMul, Nat.reduceLeDiff, Nat.reduceSub, Nat.reduceLT, Int.reduceEq, Int.reduceLT, Int.reduceLE, Int.reduceGT, Int.reduceGE, Int.reduceAdd, Int.reduceSub, Int.reduceMul, Int.reduceNeg, Int.reduceToNat, reduceCtorEq, reduceIte, lenV_sl H.p, lenV_sl H.b, elem_sp H.p, elem_bt H.b, view_sl H.p, view_sl H.b, scalar_sl H.p, scalar_sl H.b, cells_sl H.p, cells_sl H.b, pure_sl H.p, pure_sl H.b, Int.toNat_natCast, lenV_sl V, elem_in V, view_sl V, scalar_sl V, cells_sl V, pure_sl V, Int.toNat_natCast, g1, g2, g3, lenV_sl U, elem_in U, view_sl U, scalar_sl U, cells_sl U, pure_sl U, Int.toNat_natCast, hv, hc, aE]
theorem s83 (H : SeaOk s p b) (K : SeaG s) (V : IsSl 1 intL l v) (hl : l.length ≤ s.pl.length) (hc : ∀ i, i < l.length → 0 ≤ l.getD i 0 ∧ l.getD i 0 < s.bo.length) (st : Bool) : Iso E 83 [seaV s p b, v] st = some (.tup [I (frI s l l.length), Bo (decide (lft s l < 2000))]) := by
  have hs := H.sp
  refine Iso_of (es _ _ _ _) e83 ?_
  simp only [f83, seaV]
  simp (disch := first | assumption | omega | (simp only [az]; done)) only [ru, eq_self, if_true, if_false, BEq.rfl, binI, AO.row?, splice, fillL, mmAll, loadV, storeV, zeros, Am.rowAt, Am.part, addOff, Nat.reduceAdd, Nat.reduceMul, Nat.reduceLeDiff, Nat.reduceSub, Nat.reduceLT, Int.reduceEq, Int.reduceLT, Int.reduceLE, Int.reduceGT, Int.reduceGE, Int.reduceAdd, Int.reduceSub, Int.reduceMul, Int.reduceNeg, Int.reduceToNat, reduceCtorEq, reduceIte, lenV_sl V, elem_in V, view_sl V, scalar_sl V, cells_sl V, pure_sl V, Int.toNat_natCast]
  refine G_loop_ind (fun m ts h mk => ∃ i : Nat, i ≤ l.length ∧ m = l.length - i ∧ ts.length = 31 ∧ ts.getD 2 .undef = .ptr 0 0 ∧ ts.getD 6 .undef = I (frI s l i) ∧ ts.getD 7 .undef = I (lftU s l i) ∧ ts.getD 11 .undef = v ∧ ts.getD 12 .undef = I l.length ∧ ts.getD 13 .undef = I i ∧ h = [.cells [I s.w.lo, I s.w.hi, p, b] false] ∧ mk = []) ?_ _ _ _ _
    ⟨0, Nat.zero_le _, rfl, rfl, rfl, rfl, rfl, rfl, rfl, rfl, rfl, rfl⟩
  rintro m ts h mk ih ⟨i, hi, rfl, hl', q2, q6, q7, q11, q12, q13, rfl, rfl⟩
  rw [lit_all hl']
  simp only [lit0, litS, Nat.reduceAdd, q2, q6, q7, q11, q12, q13]
  simp (disch := first | assumption | omega | (simp only [az]; done)) only [ru, eq_self, if_true, if_false, BEq.rfl, binI, AO.row?, splice, fillL, mmAll, loadV, storeV, zeros, Am.rowAt, Am.part, addOff, Nat.reduceAdd, Nat.reduceMul, Nat.reduceLeDiff, Nat.reduceSub, Nat.reduceLT, Int.reduceEq, Int.reduceLT, Int.reduceLE, Int.reduceGT, Int.reduceGE, Int.reduceAdd, Int.reduceSub, Int.reduceMul, Int.reduceNeg, Int.reduceToNat, reduceCtorEq, reduceIte]
  by_cases hlt : (i : Int) < l.length
  case pos =>
    have hi' : i < l.length := by omega
    have hx := hc i hi'
    have g := fun st => s112 H K (i := i) (by omega) hx.1 hx.2 st
    simp only [seaV] at g
    by_cases hcc : brs s.pl (boat s (l.getD i 0)).c i < lftU s l i
    · have e1 : frI s l (i + 1) = i := by rw [frI, if_pos hcc]
      have e2 : lftU s l (i + 1) = brs s.pl (boat s (l.getD i 0)).c i := by rw [lftU, mn, if_pos hcc]
      simp (disch := first | assumption | omega | (simp only [az]; done)) only [ru, eq_self, if_true, if_false, BEq.rfl, binI, AO.row?, splice, fillL, mmAll, loadV, storeV, zeros, Am.rowAt, Am.part, addOff, Nat.reduceAdd, Nat.reduceMul, Nat.reduceLeDiff, Nat.reduceSub, Nat.reduceLT, Int.reduceEq, Int.reduceLT, Int.reduceLE, Int.reduceGT, Int.reduceGE, Int.reduceAdd, Int.reduceSub, Int.reduceMul, Int.reduceNeg, Int.reduceToNat, reduceCtorEq, reduceIte, lenV_sl H.p, lenV_sl H.b, elem_sp H.p, elem_bt H.b, view_sl H.p, view_sl H.b, scalar_sl H.p, scalar_sl H.b, cells_sl H.p, cells_sl H.b, pure_sl H.p, pure_sl H.b, Int.toNat_natCast, lenV_sl V, elem_in V, view_sl V, scalar_sl V, cells_sl V, pure_sl V, Int.toNat_natCast, hlt, g, hcc]
      exact ih (l.length - (i + 1)) _ _ _ (by omega) ⟨i + 1, by omega, rfl, rfl, rfl, by rw [e1]; rfl, by rw [e2]; rfl, rfl, rfl, rfl, rfl, rfl⟩
    · have e1 : frI s l (i + 1) = frI s l i := by rw [frI, if_neg hcc]
      have e2 : lftU s l (i + 1) = lftU s l i := by rw [lftU, mn, if_neg hcc]
      simp (disch := first | assumption | omega | (simp only [az]; done)) only [ru, eq_self, if_true, if_false, BEq.rfl, binI, AO.row?, splice, fillL, mmAll, loadV, storeV, zeros, Am.rowAt, Am.part, addOff, Nat.reduceAdd, Nat.reduceMul, Nat.reduceLeDiff, Nat.reduceSub, Nat.reduceLT, Int.reduceEq, Int.reduceLT, Int.reduceLE, Int.reduceGT, Int.reduceGE, Int.reduceAdd, Int.reduceSub, Int.reduceMul, Int.reduceNeg, Int.reduceToNat, reduceCtorEq, reduceIte, lenV_sl H.p, lenV_sl H.b, elem_sp H.p, elem_bt H.b, view_sl H.p, view_sl H.b, scalar_sl H.p, scalar_sl H.b, cells_sl H.p, cells_sl H.b, pure_sl H.p, pure_sl H.b, Int.toNat_natCast, lenV_sl V, elem_in V, view_sl V, scalar_sl V, cells_sl V, pure_sl V, Int.toNat_natCast, hlt, g, hcc]
      exact ih (l.length - (i + 1)) _ _ _ (by omega) ⟨i + 1, by omega, rfl, rfl, rfl, by rw [e1]; rfl, by rw [e2]; rfl, rfl, rfl, rfl, rfl, rfl⟩
  obtain rfl : i = l.length := by omega
  simp (disch := first | assumption | omega | (simp only [az]; done)) only [ru, eq_self, if_true, if_false, BEq.rfl, binI, AO.row?, splice, fillL, mmAll, loadV, storeV, zeros, Am.rowAt, Am.part, addOff, Nat.reduceAdd, Nat.reduceMul, Nat.reduceLeDiff, Nat.reduceSub, Nat.reduceLT, Int.reduceEq, Int.reduceLT, Int.reduceLE, Int.reduceGT, Int.reduceGE, Int.reduceAdd, Int.reduceSub, Int.reduceMul, Int.reduceNeg, Int.reduceToNat, reduceCtorEq, reduceIte, hlt]
theorem s38 (H : SeaOk s p b) (V : IsSl 1 intL l v) (hl : l.length ≤ 41) (st : Bool) : Iso E 38 [seaV s p b, v] st = some (firR s l) := by
  have g1 := fun st => s78 H V hl st
  refine Iso_of (es _ _ _ _) e38 ?_
  simp only [f38, seaV, firR] at g1 ⊢
  cases hv : s.valid
  · simp (disch := first | assumption | omega | (simp only [az]; done)) only [ru, eq_self, if_true, if_false, BEq.rfl, binI, AO.row?, splice, fillL, mmAll, loadV, storeV, zeros, Am.rowAt, Am.part, addOff, Nat.reduceAdd, Nat.reduceMul, Nat.reduceLeDiff, Nat.reduceSub, Nat.reduceLT, Int.reduceEq, Int.reduceLT, Int.reduceLE, Int.reduceGT, Int.reduceGE, Int.reduceAdd, Int.reduceSub, Int.reduceMul, Int.reduceNeg, Int.reduceToNat, reduceCtorEq, reduceIte, lenV_sl H.p, lenV_sl H.b, elem_sp H.p, elem_bt H.b, view_sl H.p, view_sl H.b, scalar_sl H.p, scalar_sl H.b, cells_sl H.p, cells_sl H.b, pure_sl H.p, pure_sl H.b, Int.toNat_natCast, lenV_sl V, elem_in V, view_sl V, scalar_sl V, cells_sl V, pure_sl V, Int.toNat_natCast, g1, hv, aE, Bool.false_eq_true]
  cases hc : crB s l
  · simp (disch := first | assumption | omega | (simp only [az]; done)) only [ru, eq_self, if_true, if_false, BEq.rfl, binI, AO.row?, splice, fillL, mmAll, loadV, storeV, zeros, Am.rowAt, Am.part, addOff, Nat.reduceAdd, Nat.reduceMul, Nat.reduceLeDiff, Nat.reduceSub, Nat.reduceLT, Int.reduceEq, Int.reduceLT, Int.reduceLE, Int.reduceGT, Int.reduceGE, Int.reduceAdd, Int.reduceSub, Int.reduceMul, Int.reduceNeg, Int.reduceToNat, reduceCtorEq, reduceIte, lenV_sl H.p, lenV_sl H.b, elem_sp H.p, elem_bt H.b, view_sl H.p, view_sl H.b, scalar_sl H.p, scalar_sl H.b, cells_sl H.p, cells_sl H.b, pure_sl H.p, pure_sl H.b, Int.toNat_natCast, lenV_sl V, elem_in V, view_sl V, scalar_sl V, cells_sl V, pure_sl V, Int.toNat_natCast, g1, hv, hc, aE, Bool.false_eq_true]
  obtain ⟨hlen, hcr⟩ := cr_at hc
  have g2 := fun st => s83 H (valid_good hv).1 V (by omega) hcr st
  simp only [seaV] at g2
  by_cases hh : lft s l < 2000
  · simp (disch := first | assumption | omega | (simp only [az]; done)) only [ru, eq_self, if_true, if_false, BEq.rfl, binI, AO.row?, splice, fillL, mmAll, loadV, storeV, zeros, Am.rowAt, Am.part, addOff, Nat.reduceAdd, Nat.reduceMul, Nat.reduceLeDiff, Nat.reduceSub, Nat.reduceLT, Int.reduceEq, Int.reduceLT, Int.reduceLE, Int.reduceGT, Int.reduceGE, Int.reduceAdd, Int.reduceSub, Int.reduceMul, Int.reduceNeg, Int.reduceToNat, reduceCtorEq, reduceIte, lenV_sl H.p, lenV_sl H.b, elem_sp H.p, elem_bt H.b, view_sl H.p, view_sl H.b, scalar_sl H.p, scalar_sl H.b, cells_sl H.p, cells_sl H.b, pure_sl H.p, pure_sl H.b, Int.toNat_natCast, lenV_sl V, elem_in V, view_sl V, scalar_sl V, cells_sl V, pure_sl V, Int.toNat_natCast, g1, g2, hv, hc, aE, hh, decide_true, Bool.not_true]
  · simp (disch := first | assumption | omega | (simp only [az]; done)) only [ru, eq_self, if_true, if_false, BEq.rfl, binI, AO.row?, splice, fillL, mmAll, loadV, storeV, zeros, Am.rowAt, Am.part, addOff, Nat.reduceAdd, Nat.reduceMul, Nat.reduceLeDiff, Nat.reduceSub, Nat.reduceLT, Int.reduceEq, Int.reduceLT, Int.reduceLE, Int.reduceGT, Int.reduceGE, Int.reduceAdd, Int.reduceSub, Int.reduceMul, Int.reduceNeg, Int.reduceToNat, reduceCtorEq, reduceIte, lenV_sl H.p, lenV_sl H.b, elem_sp H.p, elem_bt H.b, view_sl H.p, view_sl H.b, scalar_sl H.p, scalar_sl H.b, cells_sl H.p, cells_sl H.b, pure_sl H.p, pure_sl H.b, Int.toNat_natCast, lenV_sl V, elem_in V, view_sl V, scalar_sl V, cells_sl V, pure_sl V, Int.toNat_natCast, g1, g2, hv, hc, aE, hh, decide_false, Bool.not_false]
set_option maxHeartbeats 1000000 in
theorem s63 (H : SeaOk s p b) (V : IsSl 1 intL l v) (hl : l.length ≤ 41) (st : Bool) : Iso E 63 [seaV s p b, v] st = some (firR s l) := by
  have g1 := fun st => s93 H V hl st
  refine Iso_of (es _ _ _ _) e63 ?_
  simp only [f63, seaV, firR] at g1 ⊢
  cases hv : s.valid
  · simp (disch := first | assumption | omega | (simp only [az]; done)) only [ru, eq_self, if_true, if_false, BEq.rfl, binI, AO.row?, splice, fillL, mmAll, loadV, storeV, zeros, Am.rowAt, Am.part, addOff, Nat.reduceAdd, Nat.reduceMul, Nat.reduceLeDiff, Nat.reduceSub, Nat.reduceLT, Int.reduceEq, Int.reduceLT, Int.reduceLE, Int.reduceGT, Int.reduceGE, Int.reduceAdd, Int.reduceSub, Int.reduceMul, Int.reduceNeg, Int.reduceToNat, reduceCtorEq, reduceIte, lenV_sl H.p, lenV_sl H.b, elem_sp H.p, elem_bt H.b, view_sl H.p, view_sl H.b, scalar_sl H.p, scalar_sl H.b, cells_sl H.p, cells_sl H.b, pure_sl H.p, pure_sl H.b, Int.toNat_natCast, lenV_sl V, elem_in V, view_sl V, scalar_sl V, cells_sl V, pure_sl V, Int.toNat_natCast, g1, hv, aE, Bool.false_eq_true]
  cases hc : crB s l
  · simp (disch := first | assumption | omega | (simp only [az]; done)) only [ru, eq_self, if_true, if_false, BEq.rfl, binI, AO.row?, splice, fillL, mmAll, loadV, storeV, zeros, Am.rowAt, Am.part, addOff, Nat.reduceAdd, Nat.reduceMul, Nat.reduceLeDiff, Nat.reduceSub, Nat.reduceLT, Int.reduceEq, Int.reduceLT, Int.reduceLE, Int.reduceGT, Int.reduceGE, Int.reduceAdd, Int.reduceSub, Int.reduceMul, Int.reduceNeg, Int.reduceToNat, reduceCtorEq, reduceIte, lenV_sl H.p, lenV_sl H.b, elem_sp H.p, elem_bt H.b, view_sl H.p, view_sl H.b, scalar_sl H.p, scalar_sl H.b, cells_sl H.p, cells_sl H.b, pure_sl H.p, pure_sl H.b, Int.toNat_natCast, lenV_sl V, elem_in V, view_sl V, scalar_sl V, cells_sl V, pure_sl V, Int.toNat_natCast, g1, hv, hc, aE, Bool.false_eq_true]
  obtain ⟨hlen, hcr⟩ := cr_at hc
  have K := (valid_good hv).1
  have g3 := fun st => s98 H K.sp st
  have g2 := fun st => s97 H K V (by omega) hcr (resL_is (shs s)) st
  simp only [seaV] at g2 g3
  obtain ⟨u, hu⟩ : ∃ u, u = resL (shs s) := ⟨_, rfl⟩
  have U := resL_is (shs s)
  rw [← hu] at U
  simp only [← hu] at g2 g3
  have hsp : ∀ {i : Nat}, i < l.length → lft s l < 2000 → brs s.pl (boat s (l.getD i 0)).c i = lft s l → (∀ j, j < i → brs s.pl (boat s (l.getD j 0)).c j ≠ lft s l) → i = frI s l l.length := fun hi h e hb => frI_uniq h hi e hb
  have hsp2 : lft s l < 2000 → ∃ j, j < l.length ∧ brs s.pl (boat s (l.getD j 0)).c j = lft s l := fun h => ⟨_, (frI_spec h).1, (frI_spec h).2.1⟩
  obtain ⟨n, hn⟩ : ∃ n, n = lft s l := ⟨_, rfl⟩
  simp only [← hn] at g2 hsp hsp2 ⊢
  have lpos : (0 : Int) < l.length := by have := K.sp.ne; omega
  by_cases hh : n < 2000
  case neg =>
    simp (disch := first | assumption | omega | (simp only [az]; done)) only [ru, eq_self, if_true, if_false, BEq.rfl, binI, AO.row?, splice, fillL, mmAll, loadV, storeV, zeros, Am.rowAt, Am.part, addOff, Nat.reduceAdd, Nat.reduceMul, Nat.reduceLeDiff, Nat.reduceSub, Nat.reduceLT, Int.reduceEq, Int.reduceLT, Int.reduceLE, Int.reduceGT, Int.reduceGE, Int.reduceAdd, Int.reduceSub, Int.reduceMul, Int.reduceNeg, Int.reduceToNat, reduceCtorEq, reduceIte, lenV_sl H.p, lenV_sl H.b, elem_sp H.p, elem_bt H.b, view_sl H.p, view_sl H.b, scalar_sl H.p, scalar_sl H.b, cells_sl H.p, cells_sl H.b, pure_sl H.p, pure_sl H.b, Int.toNat_natCast, lenV_sl V, elem_in V, view_sl V, scalar_sl V, cells_sl V, pure_sl V, Int.toNat_natCast, g1, g2, g3, lenV_sl U, elem_in U, view_sl U, scalar_sl U, cells_sl U, pure_sl U, Int.toNat_natCast, hv, hc, aE, hh]
    rw [G_loop]
    simp (disch := first | assumption | omega | (simp only [az]; done)) only [ru, eq_self, if_true, if_false, BEq.rfl, binI, AO.row?, splice, fillL, mmAll, loadV, storeV, zeros, Am.rowAt, Am.part, addOff, Nat.reduceAdd, Nat.reduceMul, Nat.reduceLeDiff, Nat.reduceSub, Nat.reduceLT, Int.reduceEq, Int.reduceLT, Int.reduceLE, Int.reduceGT, Int.reduceGE, Int.reduceAdd, Int.reduceSub, Int.reduceMul, Int.reduceNeg, Int.reduceToNat, reduceCtorEq, reduceIte, lenV_sl V, elem_in V, view_sl V, scalar_sl V, cells_sl V, pure_sl V, Int.toNat_natCast, lpos, hh]
  simp (disch := first | assumption | omega | (simp only [az]; done)) only [ru, eq_self, if_true, if_false, BEq.rfl, binI, AO.row?, splice, fillL, mmAll, loadV, storeV, zeros, Am.rowAt, Am.part, addOff, Nat.reduceAdd, Nat.reduceMul, Nat.reduceLeDiff, Nat.reduceSub, Nat.reduceLT, Int.reduceEq, Int.reduceLT, Int.reduceLE, Int.reduceGT, Int.reduceGE, Int.reduceAdd, Int.reduceSub, Int.reduceMul, Int.reduceNeg, Int.reduceToNat, reduceCtorEq, reduceIte, lenV_sl H.p, lenV_sl H.b, elem_sp H.p, elem_bt H.b, view_sl H.p, view_sl H.b, scalar_sl H.p, scalar_sl H.b, cells_sl H.p, cells_sl H.b, pure_sl H.p, pure_sl H.b, Int.toNat_natCast, lenV_sl V, elem_in V, view_sl V, scalar_sl V, cells_sl V, pure_sl V, Int.toNat_natCast, g1, g2, g3, lenV_sl U, elem_in U, view_sl U, scalar_sl U, cells_sl U, pure_sl U, Int.toNat_natCast, hv, hc, aE, hh]
  refine G_loop_ind (fun m ts h mk => ∃ i : Nat, i ≤ l.length ∧ m = l.length - i ∧ (∀ j, j < i → brs s.pl (boat s (l.getD j 0)).c j ≠ n) ∧ ts.length = 47 ∧ ts.getD 1 .undef = v ∧ ts.getD 2 .undef = .ptr 0 0 ∧ ts.getD 7 .undef = I n ∧ ts.getD 8 .undef = I i ∧ h = [.cells [I s.w.lo, I s.w.hi, p, b] false] ∧ mk = []) ?_ _ _ _ _
    ⟨0, Nat.zero_le _, rfl, fun j h => by omega, rfl, rfl, rfl, rfl, rfl, rfl, rfl⟩
  rintro m ts h mk ih ⟨i, hi, rfl, hall, hl', q1, q2, q7, q8, rfl, rfl⟩
  rw [lit_all hl']
  simp only [lit0, litS, Nat.reduceAdd, q1, q2, q7, q8]
  by_cases hlt : (i : Int) < l.length
  case pos =>
    have hi' : i < l.length := by omega
    have hlt2 : (i : Int) < s.pl.length := by omega
    have hx := hcr i hi'
    have c2 := boat_ok K (l.getD i 0)
    have hs2 := shr_le K.sp (p := i) (by omega)
    have g4 := fun st => s99 s.pl (i := i) c2.1 c2.2.1 (by omega) st
    have g5 := fun st => s90 H K.sp (i := i) (by omega) st
    have eb : s.bo.getD (l.getD i 0).toNat default = boat s (l.getD i 0) := rfl
    have hx0 := hx.1; have hx1 := hx.2
    simp only [seaV] at g5
    have hsp' := hsp hi' hh
    have hall' : ∀ {y : Int}, y = brs s.pl (boat s (l.getD i 0)).c i → y ≠ n → ∀ j, j < i + 1 → brs s.pl (boat s (l.getD j 0)).c j ≠ n := fun hy hn' j hj => by
      by_cases e : j = i
      · subst e; rw [← hy]; exact hn'
      · exact hall j (by omega)
    obtain ⟨y, hy⟩ : ∃ y, y = brs s.pl (boat s (l.getD i 0)).c i := ⟨_, rfl⟩
    have hal := hall' hy
    obtain ⟨x, hx'⟩ : ∃ x, x = l.getD i 0 := ⟨_, rfl⟩
    simp only [← hx'] at hx0 hx1 eb c2 g4 hy
    simp only [← hx', ← hy] at g4 hsp'
    by_cases hcc : y = n
    · have e := hsp' hcc hall
      subst e
      simp (disch := first | assumption | omega | (simp only [az]; done)) only [ru, eq_self, if_true, if_false, BEq.rfl, binI, AO.row?, splice, fillL, mmAll, loadV, storeV, zeros, Am.rowAt, Am.part, addOff, Nat.reduceAdd, Nat.reduceMul, Nat.reduceLeDiff, Nat.reduceSub, Nat.reduceLT, Int.reduceEq, Int.reduceLT, Int.reduceLE, Int.reduceGT, Int.reduceGE, Int.reduceAdd, Int.reduceSub, Int.reduceMul, Int.reduceNeg, Int.reduceToNat, reduceCtorEq, reduceIte, lenV_sl H.p, lenV_sl H.b, elem_sp H.p, elem_bt H.b, view_sl H.p, view_sl H.b, scalar_sl H.p, scalar_sl H.b, cells_sl H.p, cells_sl H.b, pure_sl H.p, pure_sl H.b, Int.toNat_natCast, lenV_sl V, elem_in V, view_sl V, scalar_sl V, cells_sl V, pure_sl V, Int.toNat_natCast, hlt, hlt2, hh, ← hx', eb, g4, g5, hcc, decide_true]
    · simp (disch := first | assumption | omega | (simp only [az]; done)) only [ru, eq_self, if_true, if_false, BEq.rfl, binI, AO.row?, splice, fillL, mmAll, loadV, storeV, zeros, Am.rowAt, Am.part, addOff, Nat.reduceAdd, Nat.reduceMul, Nat.reduceLeDiff, Nat.reduceSub, Nat.reduceLT, Int.reduceEq, Int.reduceLT, Int.reduceLE, Int.reduceGT, Int.reduceGE, Int.reduceAdd, Int.reduceSub, Int.reduceMul, Int.reduceNeg, Int.reduceToNat, reduceCtorEq, reduceIte, lenV_sl H.p, lenV_sl H.b, elem_sp H.p, elem_bt H.b, view_sl H.p, view_sl H.b, scalar_sl H.p, scalar_sl H.b, cells_sl H.p, cells_sl H.b, pure_sl H.p, pure_sl H.b, Int.toNat_natCast, lenV_sl V, elem_in V, view_sl V, scalar_sl V, cells_sl V, pure_sl V, Int.toNat_natCast, hlt, hlt2, hh, ← hx', eb, g4, g5, hcc, decide_false]
      exact ih (l.length - (i + 1)) _ _ _ (by omega) ⟨i + 1, by omega, rfl, hal hcc, rfl, rfl, rfl, rfl, rfl, rfl, rfl⟩
  obtain rfl : i = l.length := by omega
  exfalso
  obtain ⟨j, hj, e⟩ := hsp2 hh
  exact hall j hj e
end
end Go.Proofs.Ytdmhbefdidmliaa.S

/-
All crews: as the specification lists them, and as the program yields them.
-/
namespace Go.Proofs.Ytdmhbefdidmliaa.S
open Go Go.Am Go.Proofs.Ytdmhbefdidmliaa.T
set_option maxRecDepth 100000
set_option linter.unusedSimpArgs false
set_option linter.unusedVariables false

/-- the crews with the first k boats at a place -/
def crP (nb d : Nat) (F : List Int) (k : Nat) : List (List Int) := (List.range k).flatMap fun (b : Nat) => if (b : Int) ∈ F then [] else crw nb d (F ++ [(b : Int)])
theorem crP_succ {nb d : Nat} {F : List Int} {k : Nat} : crP nb d F (k + 1) = crP nb d F k ++ (if (k : Int) ∈ F then [] else crw nb d (F ++ [(k : Int)])) := by
  unfold crP; rw [List.range_succ, List.flatMap_append]; simp
theorem pow_le {nb d : Nat} (hb : nb ≤ 6) (hd : d ≤ 4) : nb ^ d ≤ 1296 := by
  have h1 := Nat.pow_le_pow_left hb d
  have h2 := Nat.pow_le_pow_right (n := 6) (by omega) hd
  have : 6 ^ 4 = 1296 := by decide
  omega
theorem crP_len {nb d : Nat} {F : List Int} (hb : nb ≤ 6) (hd : d ≤ 4) : ∀ {k : Nat}, (crP nb d F k).length ≤ k * 1296
  | 0 => by simp [crP]
  | k + 1 => by
    have := crP_len (F := F) hb hd (k := k)
    have := crw_len (nb := nb) (d := d) (F := F ++ [(k : Int)])
    have := pow_le hb hd
    rw [crP_succ, List.length_append]
    split
    · simp; omega
    · omega

set_option maxHeartbeats 1000000 in
theorem r100 {s : Sea} {p b : AV} (H : SeaOk s p b) (G : s.pl.length ≤ 4) (hnb : s.bo.length ≤ 6) : ∀ (d : Nat) (F : List Int) (fv : AV) (h : List AO) (lim : Nat), F.length + d = s.pl.length → RdS h fv F → lim ≤ h.length →
    ∃ v h', R E (.fn 100) [seaV s p b, fv] h lim = some (v, h') ∧ Fr h h' ∧ OutLL h.length h' v (crw s.bo.length d F) := by
  have sp := H.sp
  intro d
  induction d with
  | zero =>
    intro F fv h lim hd hF hlim
    have hl : (F.length : Int) = s.pl.length := by omega
    obtain ⟨f1, f2, f3⟩ := hF.len
    have key : ∃ r h', R E (.fn 100) [seaV s p b, fv] h lim = some (r, h') ∧ (Fr h h' ∧ OutLL h.length h' r (crw s.bo.length 0 F)) := by
      refine R_of _ (es _ _ _ _) e100 ?_
      simp only [f100, seaV]
      simp (disch := first | assumption | omega | (simp only [az]; done)) only [ru, eq_self, if_true, if_false, BEq.rfl, binI, AO.row?, splice, fillL, mmAll, loadV, storeV, zeros, Am.rowAt, Am.part, addOff, Nat.reduceAdd, Nat.reduceMul, Nat.reduceLeDiff, Nat.reduceSub, Nat.reduceLT, Int.reduceEq, Int.reduceLT, Int.reduceLE, Int.reduceGT, Int.reduceGE, Int.reduceAdd, Int.reduceSub, Int.reduceMul, Int.reduceNeg, Int.reduceToNat, reduceCtorEq, reduceIte, lenV_sl H.p, lenV_sl H.b, elem_sp H.p, elem_bt H.b, view_sl H.p, view_sl H.b, scalar_sl H.p, scalar_sl H.b, cells_sl H.p, cells_sl H.b, pure_sl H.p, pure_sl H.b, Int.toNat_natCast, f1, f2, f3, hl]
      refine ⟨by rw [List.append_assoc]; exact Fr.app _ _, .inr ⟨by simp [crw], (h ++ [(.cells [I s.w.lo, I s.w.hi, p, b] false : AO)]).length, [fv], by simp, rfl, by simp, rfl, fun i hi => ?_⟩⟩
      have hi0 : i = 0 := by simp [crw] at hi; omega
      subst hi0
      simp only [crw, get0]
      exact hF.fr (by rw [List.append_assoc]; exact Fr.app _ _)
    exact key
  | succ d ih =>
    intro F fv h lim hd hF hlim
    have hl : ¬ (F.length : Int) = s.pl.length := by omega
    obtain ⟨f1, f2, f3⟩ := hF.len
    have key : ∃ r h', R E (.fn 100) [seaV s p b, fv] h lim = some (r, h') ∧ (Fr h h' ∧ OutLL h.length h' r (crw s.bo.length (d + 1) F)) := by
      refine R_of _ (es _ _ _ _) e100 ?_
      simp only [f100, seaV]
      simp (disch := first | assumption | omega | (simp only [az]; done)) only [ru, eq_self, if_true, if_false, BEq.rfl, binI, AO.row?, splice, fillL, mmAll, loadV, storeV, zeros, Am.rowAt, Am.part, addOff, Nat.reduceAdd, Nat.reduceMul, Nat.reduceLeDiff, Nat.reduceSub, Nat.reduceLT, Int.reduceEq, Int.reduceLT, Int.reduceLE, Int.reduceGT, Int.reduceGE, Int.reduceAdd, Int.reduceSub, Int.reduceMul, Int.reduceNeg, Int.reduceToNat, reduceCtorEq, reduceIte, lenV_sl H.p, lenV_sl H.b, elem_sp H.p, elem_bt H.b, view_sl H.p, view_sl H.b, scalar_sl H.p, scalar_sl H.b, cells_sl H.p, cells_sl H.b, pure_sl H.p, pure_sl H.b, Int.toNat_natCast, f1, hl]
      refine G_loop_ind (fun m ts hk mk => ∃ (k : Nat) (o : AV), k ≤ s.bo.length ∧ m = s.bo.length - k ∧ Fr h hk ∧ hk[h.length]? = some (.cells [I s.w.lo, I s.w.hi, p, b] false) ∧ OutLL (h.length + 1) hk o (crP s.bo.length d F k) ∧
        ts.length = 37 ∧ ts.getD 1 .undef = fv ∧ ts.getD 2 .undef = .ptr h.length 0 ∧ ts.getD 5 .undef = o ∧ ts.getD 6 .undef = I k ∧ mk = []) ?_ _ _ _ _
        ⟨0, .nils, Nat.zero_le _, rfl, Fr.app _ _, by simp, .inl ⟨rfl, rfl⟩, rfl, rfl, rfl, rfl, rfl, rfl⟩
      rintro m ts hk mk ihk ⟨k, o, hkN, rfl, fr, c2, ho, hl', q1, q2, q5, q6, rfl⟩
      rw [lit_all hl']
      simp only [lit0, litS, Nat.reduceAdd, q1, q2, q5, q6]
      simp (disch := first | assumption | omega | (simp only [az]; done)) only [ru, eq_self, if_true, if_false, BEq.rfl, binI, AO.row?, splice, fillL, mmAll, loadV, storeV, zeros, Am.rowAt, Am.part, addOff, Nat.reduceAdd, Nat.reduceMul, Nat.reduceLeDiff, Nat.reduceSub, Nat.reduceLT, Int.reduceEq, Int.reduceLT, Int.reduceLE, Int.reduceGT, Int.reduceGE, Int.reduceAdd, Int.reduceSub, Int.reduceMul, Int.reduceNeg, Int.reduceToNat, reduceCtorEq, reduceIte, lenV_sl H.p, lenV_sl H.b, elem_sp H.p, elem_bt H.b, view_sl H.p, view_sl H.b, scalar_sl H.p, scalar_sl H.b, cells_sl H.p, cells_sl H.b, pure_sl H.p, pure_sl H.b, Int.toNat_natCast, c2]
      by_cases hlt : (k : Int) < s.bo.length
      case pos =>
        have n2 := (List.getElem?_eq_some_iff.1 c2).1
        have hF' := hF.fr fr
        have g49 := fun st => s49 (resL_is F) (by omega) (k : Int) st
        have fw := hF'.view (st := false) (k := 7)
        have hlk : lim ≤ hk.length := by have := fr.l; omega
        have lk := fr.l
        by_cases hmem : (k : Int) ∈ F
        · simp (disch := first | assumption | omega | (simp only [az]; done)) only [ru, eq_self, if_true, if_false, BEq.rfl, binI, AO.row?, splice, fillL, mmAll, loadV, storeV, zeros, Am.rowAt, Am.part, addOff, Nat.reduceAdd, Nat.reduceMul, Nat.reduceLeDiff, Nat.reduceSub, Nat.reduceLT, Int.reduceEq, Int.reduceLT, Int.reduceLE, Int.reduceGT, Int.reduceGE, Int.reduceAdd, Int.reduceSub, Int.reduceMul, Int.reduceNeg, Int.reduceToNat, reduceCtorEq, reduceIte, hlt, fw, g49, hmem, decide_true, Bool.not_true]
          exact ihk (s.bo.length - (k + 1)) _ _ _ (by omega) ⟨k + 1, o, by omega, rfl, fr, c2, by rw [crP_succ, if_pos hmem, List.append_nil]; exact ho, rfl, rfl, rfl, rfl, rfl, rfl⟩
        obtain ⟨y, hy⟩ : ∃ y, y = (k : Int) := ⟨_, rfl⟩
        obtain ⟨q, x0, x1, hq, A1, hx'⟩ := app_one (lim := lim) hF' (by omega) hlk
        obtain ⟨y0, y1, sh, A2⟩ := app_two (lim := lim) (h := hk) (y := y) hq hx' (by omega) hlk
        obtain ⟨H5, hH5⟩ : ∃ H5, H5 = hk ++ [y0, y1, .cells [I y] false, .cells ((F ++ [y]).flatMap fun n => [I n]) sh, .tomb] := ⟨_, rfl⟩
        rw [← hH5] at A2
        have l5 : H5.length = hk.length + 5 := by rw [hH5]; simp
        have t5 : H5[hk.length + 4]? = some .tomb := by rw [hH5, atT]; rfl
        have fr5 : Fr hk H5 := by rw [hH5]; exact Fr.app _ _
        have rd : RdS H5 (.ms 1 (hk.length + 3) 0 (F.length + 1)) (F ++ [y]) := .inr ⟨by simp, hk.length + 3, sh, by simp, by rw [hH5, atT]; rfl⟩
        obtain ⟨v', h', hr, fr', ho'⟩ := ih (F ++ [y]) (.ms 1 (hk.length + 3) 0 (F.length + 1)) H5 lim (by simp; omega) rd (by omega)
        have t5' : h'[hk.length + 4]? = some .tomb := fr'.at t5
        have u1 : H5.set (hk.length + 4) .tomb = H5 := set_same t5
        have u2 : h'.set (hk.length + 4) (H5.getD (hk.length + 4) .tomb) = h' := by
          rw [List.getD_eq_getElem?_getD, t5]; exact set_same t5'
        have lp := crP_len (F := F) (d := d) (nb := s.bo.length) hnb (by omega) (k := k)
        have lc := Nat.le_trans (crw_len (nb := s.bo.length) (d := d) (F := F ++ [y])) (pow_le hnb (by omega))
        obtain ⟨v'', h'', A3, e1, e2, e3⟩ := app_ll0 (lim := lim) (p := hk.length + 4) (ho.fr (fr5.trans fr')) (ho'.deep (by omega)) t5' (by omega) (by omega) (by omega)
        have fr'' : Fr h h'' := ⟨by have := fr'.l; omega, fun j hj => by rw [e2 j (by omega)]; exact (fr.trans (fr5.trans fr')).k j hj⟩
        rw [← hy] at hlt hmem g49 ⊢
        simp (disch := first | assumption | omega | (simp only [az]; done)) only [ru, eq_self, if_true, if_false, BEq.rfl, binI, AO.row?, splice, fillL, mmAll, loadV, storeV, zeros, Am.rowAt, Am.part, addOff, Nat.reduceAdd, Nat.reduceMul, Nat.reduceLeDiff, Nat.reduceSub, Nat.reduceLT, Int.reduceEq, Int.reduceLT, Int.reduceLE, Int.reduceGT, Int.reduceGE, Int.reduceAdd, Int.reduceSub, Int.reduceMul, Int.reduceNeg, Int.reduceToNat, reduceCtorEq, reduceIte, hlt, fw, g49, hmem, decide_false, Bool.not_false, GO_mapp, GO_mcall0, unhN, unhC, setT, setT0, getT, getT0, atT, atT0, c2, at_ap, n2, A1, A2, hr, u1, u2, A3]
        refine ihk (s.bo.length - (k + 1)) _ _ _ (by omega) ⟨k + 1, _, by omega, rfl, fr'', ?_, ?_, rfl, rfl, rfl, rfl, ?_, rfl⟩
        · rw [e2 _ (by omega)]; exact (fr5.trans fr').at c2
        · rw [crP_succ, ← hy, if_neg hmem]; exact e3
        · show I _ = I _; congr 1; omega
      obtain rfl : k = s.bo.length := by omega
      simp (disch := first | assumption | omega | (simp only [az]; done)) only [ru, eq_self, if_true, if_false, BEq.rfl, binI, AO.row?, splice, fillL, mmAll, loadV, storeV, zeros, Am.rowAt, Am.part, addOff, Nat.reduceAdd, Nat.reduceMul, Nat.reduceLeDiff, Nat.reduceSub, Nat.reduceLT, Int.reduceEq, Int.reduceLT, Int.reduceLE, Int.reduceGT, Int.reduceGE, Int.reduceAdd, Int.reduceSub, Int.reduceMul, Int.reduceNeg, Int.reduceToNat, reduceCtorEq, reduceIte, hlt]
      have hex : crw s.bo.length (d + 1) F = crP s.bo.length d F s.bo.length := rfl
      rw [hex]
      exact ⟨fr, ho.deep (by omega)⟩
    exact key
theorem s100 {s : Sea} {p b : AV} (H : SeaOk s p b) (G : s.pl.length ≤ 4) (hnb : s.bo.length ≤ 6) (st : Bool) : Iso E 100 [seaV s p b, .nils] st = some (resLL (crws s)) := by
  obtain ⟨v, h', hr, _, ho⟩ := r100 H G hnb s.pl.length [] .nils [] 0 (by simp) (.inl ⟨rfl, rfl⟩) (Nat.zero_le _)
  simp only [Iso, hr]
  exact ho.view st

/-! the program's -/
/-- what lies behind a place is as it was -/
structure Fk (b : Nat) (h h' : List AO) : Prop where
  l : h.length ≤ h'.length
  k : ∀ j, b ≤ j → j < h.length → h'[j]? = h[j]?
theorem Fk.refl (b : Nat) (h : List AO) : Fk b h h := ⟨Nat.le_refl _, fun _ _ _ => rfl⟩
theorem Fk.trans {n : Nat} {a b c : List AO} (h : Fk n a b) (h' : Fk n b c) : Fk n a c := ⟨Nat.le_trans h.l h'.l, fun j hn hj => (h'.k j hn (Nat.lt_of_lt_of_le hj h.l)).trans (h.k j hn hj)⟩
theorem Fk.of {b : Nat} {h h' : List AO} (F : Fr h h') : Fk b h h' := ⟨F.l, fun j _ hj => F.k j hj⟩
theorem Fk.at {b : Nat} {h h' : List AO} (F : Fk b h h') {j : Nat} (hb : b ≤ j) {x : AO} (hx : h[j]? = some x) : h'[j]? = some x := by rw [F.k j hb (List.getElem?_eq_some_iff.1 hx).1]; exact hx
def RdB (b : Nat) (h : List AO) (v : AV) (l : List Int) : Prop := (l = [] ∧ v = .nils) ∨ (l ≠ [] ∧ ∃ o sh, b ≤ o ∧ v = .ms 1 o 0 l.length ∧ h[o]? = some (.cells (l.flatMap fun n => [I n]) sh))
theorem RdB.s {b : Nat} {h : List AO} {v : AV} {l : List Int} (H : RdB b h v l) : RdS h v l := by
  rcases H with h1 | ⟨hne, o, sh, _, e, hc⟩
  · exact .inl h1
  · exact .inr ⟨hne, o, sh, e, hc⟩
theorem RdB.fk {b : Nat} {h h' : List AO} {v : AV} {l : List Int} (H : RdB b h v l) (F : Fk b h h') : RdB b h' v l := by
  rcases H with h1 | ⟨hne, o, sh, hb, e, hc⟩
  · exact .inl h1
  · exact .inr ⟨hne, o, sh, hb, e, F.at hb hc⟩
theorem flat_head {F : List Int} {i : Nat} (hi : i < F.length) : ((F.flatMap fun n => [I n]).drop i).head? = some (I (F.getD i 0)) := by
  induction F generalizing i with
  | nil => simp at hi
  | cons a F ih =>
    cases i with
    | zero => rfl
    | succ i => simpa using ih (i := i) (by simpa using hi)
theorem RdB.elem {b : Nat} {h : List AO} {v : AV} {l : List Int} (H : RdB b h v l) {i : Nat} (hi : i < l.length) : ∃ o, v = .ms 1 o 0 l.length ∧ ∃ c sh, h[o]? = some (.cells c sh) ∧ (c.drop (i * 1)).head? = some (I (l.getD i 0)) := by
  rcases H with ⟨rfl, _⟩ | ⟨hne, o, sh, hb, rfl, hc⟩
  · simp at hi
  · exact ⟨o, rfl, _, sh, hc, by rw [Nat.mul_one]; exact flat_head hi⟩
/-- one boat more, in new memory -/
theorem RdB.more {b : Nat} {h : List AO} {v : AV} {l : List Int} (H : RdB b h v l) (hl : l.length ≤ 1000) {lim : Nat} (y : Int) : ∃ m, slice3V 1 v (I l.length) (I l.length) = some m ∧
    appG true lim h.length 1 8 (h ++ [.tomb]) m (.cs 1 1 [I y]) = some (.ms 1 h.length 0 (l.length + 1), h ++ [.cells ((l ++ [y]).flatMap fun n => [I n]) false]) := by
  rcases H with ⟨rfl, rfl⟩ | ⟨hne, o, sh, hb, rfl, hc⟩
  · refine ⟨.nils, rfl, ?_⟩
    rw [appG_nil (n := 1) (xs := [I y]) (by omega) rfl rfl rfl rfl (by omega) (by omega), setT0]
    rfl
  · refine ⟨.mc 1 o 0 l.length, slice3_ms, ?_⟩
    have ol := (List.getElem?_eq_some_iff.1 hc).1
    have hr : Am.rowAt (h ++ [AO.tomb]) o = some (l.flatMap fun n => [I n]) := by
      simp only [Am.rowAt, at_ap ol, hc, Option.bind_some, AO.row?]
    have hlen : (l.flatMap fun n => [I n]).length = l.length := flat1 l
    have c1 : (l.length + 1) * 8 ≤ 140737488355328 := by omega
    have e1 : lenOf (.mc 1 o 0 l.length) = some l.length := rfl
    have e2 : lenOf (.cs 1 1 [I y]) = some 1 := rfl
    have e3 : Am.rowOf (h ++ [AO.tomb]) (.cs 1 1 [I y]) = some [I y] := rfl
    have e4 : l.length * 1 ≤ (l.flatMap fun n => [I n]).length := by omega
    have e5 : (l.flatMap fun n => [I n]).take (l.length * 1) = l.flatMap fun n => [I n] := List.take_of_length_le (by omega)
    simp only [appG, exOp, e1, e2, e3, List.length_singleton, Nat.one_mul, Nat.one_ne_zero, if_true, if_false, c1, Nat.le_refl, true_and, List.all_cons, List.all_nil, AV.scalar, Bool.and_true, hr, e4, e5, and_self, newObj', Option.getD_some, setT0, set0, List.flatMap_append]
    rfl
end Go.Proofs.Ytdmhbefdidmliaa.S

/-
The program's crews: a range over a function that yields each crew in memory of its own.
-/
namespace Go.Proofs.Ytdmhbefdidmliaa.S
open Go Go.Am Go.Proofs.Ytdmhbefdidmliaa.T
set_option maxRecDepth 100000
set_option linter.unusedSimpArgs false
set_option linter.unusedVariables false

set_option maxHeartbeats 2000000 in
theorem r129 {s : Sea} {p b : AV} (H : SeaOk s p b) (hk4 : s.pl.length ≤ 4) (hnb : s.bo.length ≤ 6) {o lim : Nat} (hlim : lim ≤ o) {P : List (List Int) → List AO → Prop}
    (hP : ∀ D h h', P D h → Fr h h' → P D h')
    (hstep : ∀ D F fv h, o < h.length → P D h → RdB (o + 1) h fv F → isCr s F → ∃ h', R E (.rnd o) [fv] h lim = some (Bo true, h') ∧ P (D ++ [F]) h' ∧ Fk (o + 1) h h') :
    ∀ (d : Nat) (F : List Int) (fv : AV) (D : List (List Int)) (h : List AO), F.length + d = s.pl.length → okC s.bo.length F → RdB (o + 1) h fv F → o < h.length → P D h →
    ∃ h', R E (.fn 129) [seaV s p b, fv, .yld o] h lim = some (Bo true, h') ∧ P (D ++ crw s.bo.length d F) h' ∧ Fk (o + 1) h h' := by
  have sp := H.sp
  intro d
  induction d with
  | zero =>
    intro F fv D h hd hF rd ho hp
    have hl : (F.length : Int) = s.pl.length := by omega
    obtain ⟨f1, f2, f3⟩ := rd.s.len
    have fr := Fr.app h [(.cells [I s.w.lo, I s.w.hi, p, b] false : AO)]
    obtain ⟨h', hr, hp', fk⟩ := hstep D F fv (h ++ [.cells [I s.w.lo, I s.w.hi, p, b] false]) (by simp; omega) (hP _ _ _ hp fr) (rd.fk (Fk.of fr)) ⟨by omega, hF⟩
    refine (fun x => ?_ : (∃ r h', R E (.fn 129) [seaV s p b, fv, .yld o] h lim = some (r, h') ∧ (r = Bo true ∧ P (D ++ crw s.bo.length 0 F) h' ∧ Fk (o + 1) h h')) → _) (R_of _ (es _ _ _ _) e129 ?_)
    · obtain ⟨r, h', hr, rfl, hh⟩ := x; exact ⟨h', hr, hh⟩
    simp only [f129, seaV]
    simp (disch := first | assumption | omega | (simp only [az]; done)) only [ru, eq_self, if_true, if_false, BEq.rfl, binI, AO.row?, splice, fillL, mmAll, loadV, storeV, zeros, Am.rowAt, Am.part, addOff, Nat.reduceAdd, Nat.reduceMul, Nat.reduceLeDiff, Nat.reduceSub, Nat.reduceLT, Int.reduceEq, Int.reduceLT, Int.reduceLE, Int.reduceGT, Int.reduceGE, Int.reduceAdd, Int.reduceSub, Int.reduceMul, Int.reduceNeg, Int.reduceToNat, reduceCtorEq, reduceIte, lenV_sl H.p, lenV_sl H.b, elem_sp H.p, elem_bt H.b, view_sl H.p, view_sl H.b, scalar_sl H.p, scalar_sl H.b, cells_sl H.p, cells_sl H.b, pure_sl H.p, pure_sl H.b, Int.toNat_natCast, f1, f2, f3, hl, decide_true, exOp_callv0, hr]
    exact ⟨hp', (Fk.of fr).trans fk⟩
  | succ d ih =>
    intro F fv D h hd hF rd ho hp
    have hl : ¬ (F.length : Int) = s.pl.length := by omega
    obtain ⟨f1, f2, f3⟩ := rd.s.len
    have fr := Fr.app h [(.cells [I s.w.lo, I s.w.hi, p, b] false : AO)]
    refine (fun x => ?_ : (∃ r h', R E (.fn 129) [seaV s p b, fv, .yld o] h lim = some (r, h') ∧ (r = Bo true ∧ P (D ++ crw s.bo.length (d + 1) F) h' ∧ Fk (o + 1) h h')) → _) (R_of _ (es _ _ _ _) e129 ?_)
    · obtain ⟨r, h', hr, rfl, hh⟩ := x; exact ⟨h', hr, hh⟩
    simp only [f129, seaV]
    simp (disch := first | assumption | omega | (simp only [az]; done)) only [ru, eq_self, if_true, if_false, BEq.rfl, binI, AO.row?, splice, fillL, mmAll, loadV, storeV, zeros, Am.rowAt, Am.part, addOff, Nat.reduceAdd, Nat.reduceMul, Nat.reduceLeDiff, Nat.reduceSub, Nat.reduceLT, Int.reduceEq, Int.reduceLT, Int.reduceLE, Int.reduceGT, Int.reduceGE, Int.reduceAdd, Int.reduceSub, Int.reduceMul, Int.reduceNeg, Int.reduceToNat, reduceCtorEq, reduceIte, lenV_sl H.p, lenV_sl H.b, elem_sp H.p, elem_bt H.b, view_sl H.p, view_sl H.b, scalar_sl H.p, scalar_sl H.b, cells_sl H.p, cells_sl H.b, pure_sl H.p, pure_sl H.b, Int.toNat_natCast, f1, f2, f3, hl, decide_false]
    refine G_loop_ind (fun m ts hk mk => ∃ (j : Nat), j ≤ s.bo.length ∧ m = s.bo.length - j ∧ Fk (o + 1) h hk ∧ hk[h.length]? = some (.cells [I s.w.lo, I s.w.hi, p, b] false) ∧ P (D ++ crP s.bo.length d F j) hk ∧
      ts.length = 51 ∧ ts.getD 1 .undef = fv ∧ ts.getD 2 .undef = .yld o ∧ ts.getD 3 .undef = .ptr h.length 0 ∧ ts.getD 23 .undef = I s.bo.length ∧ ts.getD 24 .undef = I j ∧ mk = []) ?_ _ _ _ _
      ⟨0, Nat.zero_le _, rfl, Fk.of fr, by simp, by simpa [crP] using hP _ _ _ hp fr, rfl, rfl, rfl, rfl, rfl, rfl, rfl⟩
    rintro m ts hk mk ihk ⟨j, hj, rfl, fk, c3, hpk, hl', q1, q2, q3, q23, q24, rfl⟩
    rw [lit_all hl']
    simp only [lit0, litS, Nat.reduceAdd, q1, q2, q3, q23, q24]
    simp (disch := first | assumption | omega | (simp only [az]; done)) only [ru, eq_self, if_true, if_false, BEq.rfl, binI, AO.row?, splice, fillL, mmAll, loadV, storeV, zeros, Am.rowAt, Am.part, addOff, Nat.reduceAdd, Nat.reduceMul, Nat.reduceLeDiff, Nat.reduceSub, Nat.reduceLT, Int.reduceEq, Int.reduceLT, Int.reduceLE, Int.reduceGT, Int.reduceGE, Int.reduceAdd, Int.reduceSub, Int.reduceMul, Int.reduceNeg, Int.reduceToNat, reduceCtorEq, reduceIte, f1]
    by_cases hlt : (j : Int) < s.bo.length
    case neg =>
      obtain rfl : j = s.bo.length := by omega
      simp (disch := first | assumption | omega | (simp only [az]; done)) only [ru, eq_self, if_true, if_false, BEq.rfl, binI, AO.row?, splice, fillL, mmAll, loadV, storeV, zeros, Am.rowAt, Am.part, addOff, Nat.reduceAdd, Nat.reduceMul, Nat.reduceLeDiff, Nat.reduceSub, Nat.reduceLT, Int.reduceEq, Int.reduceLT, Int.reduceLE, Int.reduceGT, Int.reduceGE, Int.reduceAdd, Int.reduceSub, Int.reduceMul, Int.reduceNeg, Int.reduceToNat, reduceCtorEq, reduceIte, hlt]
      exact ⟨hpk, fk⟩
    simp (disch := first | assumption | omega | (simp only [az]; done)) only [ru, eq_self, if_true, if_false, BEq.rfl, binI, AO.row?, splice, fillL, mmAll, loadV, storeV, zeros, Am.rowAt, Am.part, addOff, Nat.reduceAdd, Nat.reduceMul, Nat.reduceLeDiff, Nat.reduceSub, Nat.reduceLT, Int.reduceEq, Int.reduceLT, Int.reduceLE, Int.reduceGT, Int.reduceGE, Int.reduceAdd, Int.reduceSub, Int.reduceMul, Int.reduceNeg, Int.reduceToNat, reduceCtorEq, reduceIte, hlt, f1]
    clear hl' q1 q2 q3 q23 q24
    have rdk := rd.fk fk
    have ok : o < hk.length := by have := fk.l; omega
    refine G_loop_ind (fun m ts hk' mk => ∃ (i : Nat), i ≤ F.length ∧ m = F.length - i ∧ (j : Int) ∉ F.take i ∧ hk' = hk ∧ ts.length = 51 ∧ ts.getD 1 .undef = fv ∧ ts.getD 2 .undef = .yld o ∧ ts.getD 3 .undef = .ptr h.length 0 ∧ ts.getD 7 .undef = I j ∧ ts.getD 23 .undef = I s.bo.length ∧ ts.getD 24 .undef = I j ∧ ts.getD 27 .undef = fv ∧ ts.getD 28 .undef = I F.length ∧ ts.getD 29 .undef = I i ∧ mk = []) ?_ _ _ _ _
      ⟨0, Nat.zero_le _, rfl, by simp, rfl, rfl, rfl, rfl, rfl, rfl, rfl, rfl, rfl, rfl, rfl, rfl⟩
    rintro m ts hk' mk ihi ⟨i, hi, rfl, hnot, rfl, hl', q1, q2, q3, q7, q23, q24, q27, q28, q29, rfl⟩
    rw [lit_all hl']
    simp only [lit0, litS, Nat.reduceAdd, q1, q2, q3, q7, q23, q24, q27, q28, q29]
    simp (disch := first | assumption | omega | (simp only [az]; done)) only [ru, eq_self, if_true, if_false, BEq.rfl, binI, AO.row?, splice, fillL, mmAll, loadV, storeV, zeros, Am.rowAt, Am.part, addOff, Nat.reduceAdd, Nat.reduceMul, Nat.reduceLeDiff, Nat.reduceSub, Nat.reduceLT, Int.reduceEq, Int.reduceLT, Int.reduceLE, Int.reduceGT, Int.reduceGE, Int.reduceAdd, Int.reduceSub, Int.reduceMul, Int.reduceNeg, Int.reduceToNat, reduceCtorEq, reduceIte]
    by_cases hlt2 : (i : Int) < F.length
    case pos =>
      have hi' : i < F.length := by omega
      obtain ⟨fo, efv, c, sh, hc, hh⟩ := rdk.elem hi'
      have hx : F.getD i 0 ∈ F := getD_memI hi'
      have htk : F.take (i + 1) = F.take i ++ [F.getD i 0] := by
        rw [List.take_succ_eq_append_getElem hi', List.getD_eq_getElem?_getD, List.getElem?_eq_getElem hi']; rfl
      obtain ⟨x, hx'⟩ : ∃ x, x = F.getD i 0 := ⟨_, rfl⟩
      rw [← hx'] at hh hx htk
      have efv' := efv
      by_cases hcc : x = j
      · have hm : (j : Int) ∈ F := hcc ▸ hx
        rw [efv]
        simp (disch := first | assumption | omega | (simp only [az]; done)) only [ru, eq_self, if_true, if_false, BEq.rfl, binI, AO.row?, splice, fillL, mmAll, loadV, storeV, zeros, Am.rowAt, Am.part, addOff, Nat.reduceAdd, Nat.reduceMul, Nat.reduceLeDiff, Nat.reduceSub, Nat.reduceLT, Int.reduceEq, Int.reduceLT, Int.reduceLE, Int.reduceGT, Int.reduceGE, Int.reduceAdd, Int.reduceSub, Int.reduceMul, Int.reduceNeg, Int.reduceToNat, reduceCtorEq, reduceIte, hlt2, Int.toNat_natCast, hc, hh, hcc, decide_true]
        refine ihk (s.bo.length - (j + 1)) _ _ _ (by omega) ⟨j + 1, by omega, rfl, fk, c3, by rw [crP_succ, if_pos hm, List.append_nil]; exact hpk, rfl, ?_, rfl, rfl, rfl, rfl, rfl⟩
        exact efv.symm
      · rw [efv]
        simp (disch := first | assumption | omega | (simp only [az]; done)) only [ru, eq_self, if_true, if_false, BEq.rfl, binI, AO.row?, splice, fillL, mmAll, loadV, storeV, zeros, Am.rowAt, Am.part, addOff, Nat.reduceAdd, Nat.reduceMul, Nat.reduceLeDiff, Nat.reduceSub, Nat.reduceLT, Int.reduceEq, Int.reduceLT, Int.reduceLE, Int.reduceGT, Int.reduceGE, Int.reduceAdd, Int.reduceSub, Int.reduceMul, Int.reduceNeg, Int.reduceToNat, reduceCtorEq, reduceIte, hlt2, Int.toNat_natCast, hc, hh, hcc, decide_false]
        refine ihi (F.length - (i + 1)) _ _ _ (by omega) ⟨i + 1, by omega, rfl, ?_, rfl, rfl, efv.symm, rfl, rfl, rfl, rfl, rfl, efv.symm, rfl, rfl, rfl⟩
        rw [htk, List.mem_append, List.mem_singleton]
        rintro (h | h)
        · exact hnot h
        · exact hcc h.symm
    obtain rfl : i = F.length := by omega
    rw [List.take_length] at hnot
    obtain ⟨mv, em, ea⟩ := rdk.more (by omega) (lim := lim) (j : Int)
    have n3 := (List.getElem?_eq_some_iff.1 c3).1
    have fr1 := Fr.app hk' [AO.cells ((F ++ [(j : Int)]).flatMap fun n => [I n]) false]
    have rd1 : RdB (o + 1) (hk' ++ [AO.cells ((F ++ [(j : Int)]).flatMap fun n => [I n]) false]) (.ms 1 hk'.length 0 (F.length + 1)) (F ++ [(j : Int)]) :=
      .inr ⟨by simp, hk'.length, false, by omega, by simp, atE⟩
    obtain ⟨h', hr, hp', fk'⟩ := ih (F ++ [(j : Int)]) (.ms 1 hk'.length 0 (F.length + 1)) _ (hk' ++ [AO.cells ((F ++ [(j : Int)]).flatMap fun n => [I n]) false]) (by simp; omega)
      (okC_snoc.2 ⟨hF, by omega, hnot⟩) rd1 (by simp; omega) (hP _ _ _ hpk fr1)
    simp (disch := first | assumption | omega | (simp only [az]; done)) only [ru, eq_self, if_true, if_false, BEq.rfl, binI, AO.row?, splice, fillL, mmAll, loadV, storeV, zeros, Am.rowAt, Am.part, addOff, Nat.reduceAdd, Nat.reduceMul, Nat.reduceLeDiff, Nat.reduceSub, Nat.reduceLT, Int.reduceEq, Int.reduceLT, Int.reduceLE, Int.reduceGT, Int.reduceGE, Int.reduceAdd, Int.reduceSub, Int.reduceMul, Int.reduceNeg, Int.reduceToNat, reduceCtorEq, reduceIte, hlt2, f1, c3, n3, at_ap, pex_slice3, em, exOp_litS, AV.pureV.go, AV.pureV, Bool.and_true, GO_mapp, GO_mcall0, unhN, unhC, setT, setT0, getT, getT0, atT, atT0, ea, hr, Bool.not_true, exOp_call0]
    refine ihk (s.bo.length - (j + 1)) _ _ _ (by omega) ⟨j + 1, by omega, rfl, fk.trans ((Fk.of fr1).trans fk'), ?_, ?_, rfl, rfl, rfl, rfl, rfl, rfl, rfl⟩
    · exact fk'.at (by omega) (fr1.at c3)
    · rw [crP_succ, if_neg hnot, ← List.append_assoc]; exact hp'
end Go.Proofs.Ytdmhbefdidmliaa.S

/-
The most that some crew lifts, and the cheapest crew: by the program.
-/
namespace Go.Proofs.Ytdmhbefdidmliaa.S
open Go Go.Am Go.Proofs.Ytdmhbefdidmliaa.T
set_option maxRecDepth 100000
set_option linter.unusedSimpArgs false
set_option linter.unusedVariables false

/-- the crews, each handed over -/
theorem r121 {s : Sea} {p b : AV} (H : SeaOk s p b) (hk4 : s.pl.length ≤ 4) (hnb : s.bo.length ≤ 6) {o lim : Nat} (hlim : lim ≤ o) {P : List (List Int) → List AO → Prop}
    (hP : ∀ D h h', P D h → Fr h h' → P D h')
    (hstep : ∀ D F fv h, o < h.length → P D h → RdB (o + 1) h fv F → isCr s F → ∃ h', R E (.rnd o) [fv] h lim = some (Bo true, h') ∧ P (D ++ [F]) h' ∧ Fk (o + 1) h h')
    {h : List AO} (ho : o < h.length) (h0 : P [] h) : ∃ r h', R E (.fn 121) [seaV s p b, .yld o] h lim = some (r, h') ∧ P (crws s) h' := by
  have fr := Fr.app h [(.cells [I s.w.lo, I s.w.hi, p, b] false : AO)]
  obtain ⟨h', hr, hp, _⟩ := r129 H hk4 hnb hlim hP hstep s.pl.length [] .nils [] (h ++ [.cells [I s.w.lo, I s.w.hi, p, b] false]) (by simp) ⟨by simp, by simp⟩ (.inl ⟨rfl, rfl⟩) (by simp; omega) (hP _ _ _ h0 fr)
  rw [List.nil_append] at hp
  refine R_of _ (es _ _ _ _) e121 ?_
  simp only [f121, seaV]
  simp (disch := first | assumption | omega | (simp only [az]; done)) only [ru, eq_self, if_true, if_false, BEq.rfl, binI, AO.row?, splice, fillL, mmAll, loadV, storeV, zeros, Am.rowAt, Am.part, addOff, Nat.reduceAdd, Nat.reduceMul, Nat.reduceLeDiff, Nat.reduceSub, Nat.reduceLT, Int.reduceEq, Int.reduceLT, Int.reduceLE, Int.reduceGT, Int.reduceGE, Int.reduceAdd, Int.reduceSub, Int.reduceMul, Int.reduceNeg, Int.reduceToNat, reduceCtorEq, reduceIte, exOp_call0, hr, fin0, fin0n]
  exact hp

def As102 : ACode := .region 0 [oP 4 (.move (.t 7))]
def Bd102 : ACode := .block 1 (.region 0 [oQ 8 (.load false 1 (.t 3)),
  oQ 9 (.load true 4 (.t 1)),
  oP 10 (.move (.t 4)),
  oQ 11 (.call 1 96 [(.t 9), (.t 10)]),
  oP 12 (.minmax true (.t 8) [(.t 11)]),
  ⟨none, .store 1 (.t 3) (.t 12), none, none, []⟩])

set_option maxHeartbeats 2000000 in
theorem s102 {s : Sea} {p b : AV} (H : SeaOk s p b) (K : SeaG s) (st : Bool) : Iso E 102 [seaV s p b] st = some (I (most s)) := by
  refine Iso_of (es _ _ _ _) e102 ?_
  simp only [f102, seaV]
  simp (disch := first | assumption | omega | (simp only [az]; done)) only [ru, eq_self, if_true, if_false, BEq.rfl, binI, AO.row?, splice, fillL, mmAll, loadV, storeV, zeros, Am.rowAt, Am.part, addOff, Nat.reduceAdd, Nat.reduceMul, Nat.reduceLeDiff, Nat.reduceSub, Nat.reduceLT, Int.reduceEq, Int.reduceLT, Int.reduceLE, Int.reduceGT, Int.reduceGE, Int.reduceAdd, Int.reduceSub, Int.reduceMul, Int.reduceNeg, Int.reduceToNat, reduceCtorEq, reduceIte, lenV_sl H.p, lenV_sl H.b, elem_sp H.p, elem_bt H.b, view_sl H.p, view_sl H.b, scalar_sl H.p, scalar_sl H.b, cells_sl H.p, cells_sl H.b, pure_sl H.p, pure_sl H.b, Int.toNat_natCast]
  obtain ⟨TS, hTS⟩ : ∃ TS : List AV, TS = [.agg [I s.w.lo, I s.w.hi, p, b], .ptr 0 0, I 0, .ptr 1 0, .undef, .agg [I s.w.lo, I s.w.hi, p, b], .fn 121 [.agg [I s.w.lo, I s.w.hi, p, b]] [], .undef, .undef, .undef, .undef, .undef, .undef, .undef] := ⟨_, rfl⟩
  obtain ⟨H1, hH1⟩ : ∃ H1 : List AO, H1 = [.cells [I s.w.lo, I s.w.hi, p, b] false, .cells [I 0] false, .dfr, .loop .ready none 102 TS [7] As102 Bd102 2] := ⟨_, rfl⟩
  have key := r121 H K.sp.le K.nb (o := 3) (lim := 0) (by omega)
    (P := fun D h => h[0]? = some (.cells [I s.w.lo, I s.w.hi, p, b] false) ∧ h[1]? = some (.cells [I (mst (lft s) D)] false) ∧ h[2]? = some .dfr ∧ h[3]? = some (.loop .ready none 102 TS [7] As102 Bd102 2))
    (by rintro D h h' ⟨a, b, c, d⟩ fr; exact ⟨fr.at a, fr.at b, fr.at c, fr.at d⟩) ?_ (h := H1) (by rw [hH1]; simp) (by rw [hH1]; exact ⟨rfl, rfl, rfl, rfl⟩)
  · refine G_range_of rfl rfl ?_
    rw [← hTS]
    obtain ⟨r, h3, hr, g0, g1, g2, g3⟩ := key
    rw [hH1] at hr
    refine ⟨r, h3, .ready, none, 102, TS, [7], As102, Bd102, 2, hr, g3, .inl rfl, ?_⟩
    simp only [Option.getD_none, GE_nrm]
    obtain ⟨h4, hh4⟩ : ∃ h4, h4 = h3.set (([(.cells [I s.w.lo, I s.w.hi, p, b] false : AO), .cells [I 0] false] : List AO).length + 1) (AO.loop .exhausted none 102 TS [7] As102 Bd102 2) := ⟨_, rfl⟩
    rw [← hh4]
    have k1 : h4[1]? = some (.cells [I (most s)] false) := by rw [hh4, List.getElem?_set_ne (by simp)]; exact g1
    have k2 : h4[2]? = some .dfr := by rw [hh4, List.getElem?_set_ne (by simp)]; exact g2
    rw [hTS]
    simp (disch := first | assumption | omega | (simp only [az]; done)) only [ru, eq_self, if_true, if_false, BEq.rfl, binI, AO.row?, splice, fillL, mmAll, loadV, storeV, zeros, Am.rowAt, Am.part, addOff, Nat.reduceAdd, Nat.reduceMul, Nat.reduceLeDiff, Nat.reduceSub, Nat.reduceLT, Int.reduceEq, Int.reduceLT, Int.reduceLE, Int.reduceGT, Int.reduceGE, Int.reduceAdd, Int.reduceSub, Int.reduceMul, Int.reduceNeg, Int.reduceToNat, reduceCtorEq, reduceIte, k1]
    refine finM (h' := h4.set 2 .tomb) (vs := [I (most s)]) (.inr rfl) (by simp) ?_ ?_ ?_
    · simp only [takeMarks, List.length_cons, List.length_nil, k2]
    · simp (disch := first | assumption | omega | (simp only [az]; done)) only [ru, eq_self, if_true, if_false, BEq.rfl, binI, AO.row?, splice, fillL, mmAll, loadV, storeV, zeros, Am.rowAt, Am.part, addOff, Nat.reduceAdd, Nat.reduceMul, Nat.reduceLeDiff, Nat.reduceSub, Nat.reduceLT, Int.reduceEq, Int.reduceLT, Int.reduceLE, Int.reduceGT, Int.reduceGE, Int.reduceAdd, Int.reduceSub, Int.reduceMul, Int.reduceNeg, Int.reduceToNat, reduceCtorEq, reduceIte, List.mapM_cons, List.mapM_nil, getRes, Option.bind_eq_bind, Option.pure_def, Option.bind_some]
    · exact view_int
  · rintro D F fv h ho ⟨g0, g1, g2, g3⟩ rd hcr
    have hcr' := fun i (hi : i < F.length) => isCr_at hcr hi
    have rl := rd.s.len
    have := R_rnd_of (E := E) (lim := 0) (args := [fv]) (P := fun r h' => r = Bo true ∧ (h'[0]? = some (.cells [I s.w.lo, I s.w.hi, p, b] false) ∧ h'[1]? = some (.cells [I (mst (lft s) (D ++ [F]))] false) ∧ h'[2]? = some .dfr ∧ h'[3]? = some (.loop .ready none 102 TS [7] As102 Bd102 2)) ∧ Fk 4 h h') g3 rfl (Nat.zero_le _) ?_
    · obtain ⟨r, h', hr, rfl, hp, fk⟩ := this
      exact ⟨h', hr, hp, fk⟩
    rw [hTS]
    simp only [setAll, List.set_cons_succ, List.set_cons_zero]
    rw [← hTS]
    unfold As102
    simp (disch := first | assumption | omega | (simp only [az]; done)) only [ru, eq_self, if_true, if_false, BEq.rfl, binI, AO.row?, splice, fillL, mmAll, loadV, storeV, zeros, Am.rowAt, Am.part, addOff, Nat.reduceAdd, Nat.reduceMul, Nat.reduceLeDiff, Nat.reduceSub, Nat.reduceLT, Int.reduceEq, Int.reduceLT, Int.reduceLE, Int.reduceGT, Int.reduceGE, Int.reduceAdd, Int.reduceSub, Int.reduceMul, Int.reduceNeg, Int.reduceToNat, reduceCtorEq, reduceIte]
    refine ⟨none, 102, TS, [7], As102, Bd102, 2, g3, ?_⟩
    obtain ⟨h6, hh6⟩ : ∃ h6, h6 = h.set 3 (AO.loop .busy none 102 TS [7] As102 Bd102 2) := ⟨_, rfl⟩
    rw [← hh6]
    have n0 : h6[0]? = some (.cells [I s.w.lo, I s.w.hi, p, b] false) := by rw [hh6, List.getElem?_set_ne (by omega)]; exact g0
    have n1 : h6[1]? = some (.cells [I (mst (lft s) D)] false) := by rw [hh6, List.getElem?_set_ne (by omega)]; exact g1
    have n2 : h6[2]? = some .dfr := by rw [hh6, List.getElem?_set_ne (by omega)]; exact g2
    have n3 : h6[3]? = some (AO.loop .busy none 102 TS [7] As102 Bd102 2) := by rw [hh6, List.getElem?_set_self (by omega)]
    have fk6 : Fk 4 h h6 := ⟨by rw [hh6]; simp, fun j hj hl => by rw [hh6, List.getElem?_set_ne (by omega)]⟩
    have vw := (rd.fk fk6).s.view (st := false) (k := 7)
    have g96 := fun st => s96 H K (resL_is F) (by rw [hcr.1]; omega) hcr' st
    simp only [seaV] at g96
    have em : mmx true (mst (lft s) D) (lft s F) = mst (lft s) (D ++ [F]) := by rw [mst_snoc]; rfl
    unfold Bd102
    simp (disch := first | assumption | omega | (simp only [az]; done)) only [ru, eq_self, if_true, if_false, BEq.rfl, binI, AO.row?, splice, fillL, mmAll, loadV, storeV, zeros, Am.rowAt, Am.part, addOff, Nat.reduceAdd, Nat.reduceMul, Nat.reduceLeDiff, Nat.reduceSub, Nat.reduceLT, Int.reduceEq, Int.reduceLT, Int.reduceLE, Int.reduceGT, Int.reduceGE, Int.reduceAdd, Int.reduceSub, Int.reduceMul, Int.reduceNeg, Int.reduceToNat, reduceCtorEq, reduceIte, lenV_sl H.p, lenV_sl H.b, elem_sp H.p, elem_bt H.b, view_sl H.p, view_sl H.b, scalar_sl H.p, scalar_sl H.b, cells_sl H.p, cells_sl H.b, pure_sl H.p, pure_sl H.b, Int.toNat_natCast, n0, n1, vw, g96, em]
    refine ⟨.busy, none, 102, TS, [7], As102, Bd102, 2, by rw [List.getElem?_set_ne (by omega)]; exact n3, ?_⟩
    refine ⟨⟨?_, ?_, ?_, ?_⟩, ⟨by rw [hh6]; simp, fun j hj hl => ?_⟩⟩
    · rw [List.getElem?_set_ne (by omega), List.getElem?_set_ne (by omega)]; exact n0
    · rw [List.getElem?_set_ne (by omega), List.getElem?_set_self (by rw [hh6]; simp; omega)]
    · rw [List.getElem?_set_ne (by omega), List.getElem?_set_ne (by omega)]; exact n2
    · rw [List.getElem?_set_self (by rw [hh6]; simp; omega)]; rfl
    · rw [List.getElem?_set_ne (by omega), List.getElem?_set_ne (by omega), hh6, List.getElem?_set_ne (by omega)]

/-! the cheapest crew -/
theorem bstS_no {f : List Int → Bool} {cost : List Int → Int} {b : Option (List Int)} {c : List Int} (h : f c = false) : bstS f cost b c = b := by
  unfold bstS; rw [h]; rfl
theorem bstS_new {f : List Int → Bool} {cost : List Int → Int} {c : List Int} (h : f c = true) : bstS f cost none c = some c := by
  unfold bstS; rw [h]; rfl
theorem bstS_lt {f : List Int → Bool} {cost : List Int → Int} {x c : List Int} (h : f c = true) (hl : cost c < cost x) : bstS f cost (some x) c = some c := by
  unfold bstS; rw [h]; simp only [if_true]; rw [if_pos hl]
theorem bstS_ge {f : List Int → Bool} {cost : List Int → Int} {x c : List Int} (h : f c = true) (hl : ¬ cost c < cost x) : bstS f cost (some x) c = some x := by
  unfold bstS; rw [h]; simp only [if_true]; rw [if_neg hl]
def bstV : Option (List Int) → List AO → AV → Prop
  | none, _, v => v = .nils
  | some c, h, v => c ≠ [] ∧ RdB 5 h v c
def bstC (s : Sea) : Option (List Int) → Int
  | none => 0
  | some c => cst s c
def As110 : ACode := .region 0 [oP 6 (.move (.t 10))]
def Bd110 : ACode := .block 1 (.seq (.seq (.region 0 [oQ 11 (.load true 4 (.t 1)), oP 12 (.move (.t 6)), oQ 13 (.call 1 79 [(.t 11), (.t 12)]), oP 14 (.un .not (.t 13))])
  (.cond (.t 14) (.exit 1) (.skip)))
  (.seq (.region 0 [oQ 15 (.load true 4 (.t 1)), oP 16 (.move (.t 6)), oQ 17 (.call 1 123 [(.t 15), (.t 16)]), oP 7 (.move (.t 17))])
  (.seq (.region 0 [oQ 18 (.load false 1 (.t 4)), oP 19 (.isNil (.t 18) (.c .nils)), oP 20 (.move (.t 19)), oG 21 20 false (.move (.t 7)), ⟨some 22, .load false 1 (.t 5), some (20, false), none, []⟩, oG 23 20 false (.bin .lss (.t 21) (.t 22)), oP 24 (.pick (.t 20) (.c (.bool true)) (.t 23))])
  (.cond (.t 24) (.region 0 [oP 25 (.move (.t 6)), oP 26 (.move (.t 7)), ⟨none, .store 1 (.t 4) (.t 25), none, none, []⟩, ⟨none, .store 1 (.t 5) (.t 26), none, none, []⟩]) (.skip)))))

set_option maxHeartbeats 4000000 in
theorem s110 {s : Sea} {p b : AV} (H : SeaOk s p b) (K : SeaG s) : Iso E 110 [seaV s p b] false = some (.tup [resL ((crew s).getD []), I (bstC s (crew s))]) := by
  refine Iso_of (es _ _ _ _) e110 ?_
  simp only [f110, seaV]
  simp (disch := first | assumption | omega | (simp only [az]; done)) only [ru, eq_self, if_true, if_false, BEq.rfl, binI, AO.row?, splice, fillL, mmAll, loadV, storeV, zeros, Am.rowAt, Am.part, addOff, Nat.reduceAdd, Nat.reduceMul, Nat.reduceLeDiff, Nat.reduceSub, Nat.reduceLT, Int.reduceEq, Int.reduceLT, Int.reduceLE, Int.reduceGT, Int.reduceGE, Int.reduceAdd, Int.reduceSub, Int.reduceMul, Int.reduceNeg, Int.reduceToNat, reduceCtorEq, reduceIte, lenV_sl H.p, lenV_sl H.b, elem_sp H.p, elem_bt H.b, view_sl H.p, view_sl H.b, scalar_sl H.p, scalar_sl H.b, cells_sl H.p, cells_sl H.b, pure_sl H.p, pure_sl H.b, Int.toNat_natCast]
  obtain ⟨TS, hTS⟩ : ∃ TS : List AV, TS = [.agg [I s.w.lo, I s.w.hi, p, b], .ptr 0 0, .nils, I 0, .ptr 1 0, .ptr 2 0, .undef, .undef, .agg [I s.w.lo, I s.w.hi, p, b], .fn 121 [.agg [I s.w.lo, I s.w.hi, p, b]] [], .undef, .undef, .undef, .undef, .undef, .undef, .undef, .undef, .undef, .undef, .undef, .undef, .undef, .undef, .undef, .undef, .undef, .undef, .undef] := ⟨_, rfl⟩
  obtain ⟨H1, hH1⟩ : ∃ H1 : List AO, H1 = [.cells [I s.w.lo, I s.w.hi, p, b] false, .cells [.nils] false, .cells [I 0] false, .dfr, .loop .ready none 110 TS [10] As110 Bd110 3] := ⟨_, rfl⟩
  have key := r121 H K.sp.le K.nb (o := 4) (lim := 0) (by omega)
    (P := fun D h => h[0]? = some (.cells [I s.w.lo, I s.w.hi, p, b] false) ∧ (∃ v, h[1]? = some (.cells [v] false) ∧ bstV (bst (fts s) (cst s) D) h v) ∧ h[2]? = some (.cells [I (bstC s (bst (fts s) (cst s) D))] false) ∧ h[3]? = some .dfr ∧ h[4]? = some (.loop .ready none 110 TS [10] As110 Bd110 3))
    (by
      rintro D h h' ⟨a, ⟨v, b, b'⟩, c, d, e⟩ fr
      refine ⟨fr.at a, ⟨v, fr.at b, ?_⟩, fr.at c, fr.at d, fr.at e⟩
      cases hb : bst (fts s) (cst s) D with
      | none => rw [hb] at b'; exact b'
      | some x => rw [hb] at b'; exact ⟨b'.1, b'.2.fk (Fk.of fr)⟩) ?_ (h := H1) (by rw [hH1]; simp) (by rw [hH1]; exact ⟨rfl, ⟨.nils, rfl, rfl⟩, rfl, rfl, rfl⟩)
  · refine G_range_of rfl rfl ?_
    rw [← hTS]
    obtain ⟨r, h3, hr, g0, ⟨v, g1, g1'⟩, g2, g3, g4⟩ := key
    rw [hH1] at hr
    refine ⟨r, h3, .ready, none, 110, TS, [10], As110, Bd110, 3, hr, g4, .inl rfl, ?_⟩
    simp only [Option.getD_none, GE_nrm]
    obtain ⟨h4, hh4⟩ : ∃ h4, h4 = h3.set (([(.cells [I s.w.lo, I s.w.hi, p, b] false : AO), .cells [.nils] false, .cells [I 0] false] : List AO).length + 1) (AO.loop .exhausted none 110 TS [10] As110 Bd110 3) := ⟨_, rfl⟩
    rw [← hh4]
    have k1 : h4[1]? = some (.cells [v] false) := by rw [hh4, List.getElem?_set_ne (by simp)]; exact g1
    have k2 : h4[2]? = some (.cells [I (bstC s (crew s))] false) := by rw [hh4, List.getElem?_set_ne (by simp)]; exact g2
    have k3 : h4[3]? = some .dfr := by rw [hh4, List.getElem?_set_ne (by simp)]; exact g3
    have vw : Am.view false (h4.set 3 .tomb) 7 v = some (resL ((crew s).getD [])) := by
      cases hb : crew s with
      | none => rw [show bst (fts s) (cst s) (crws s) = none from hb] at g1'; rw [show v = .nils from g1']; rfl
      | some x =>
        rw [show bst (fts s) (cst s) (crws s) = some x from hb] at g1'
        have fk : Fk 5 h3 (h4.set 3 .tomb) := ⟨by rw [hh4]; simp, fun j hj hl => by rw [List.getElem?_set_ne (by omega), hh4, List.getElem?_set_ne (by simp; omega)]⟩
        exact (g1'.2.fk fk).s.view
    rw [hTS]
    simp (disch := first | assumption | omega | (simp only [az]; done)) only [ru, eq_self, if_true, if_false, BEq.rfl, binI, AO.row?, splice, fillL, mmAll, loadV, storeV, zeros, Am.rowAt, Am.part, addOff, Nat.reduceAdd, Nat.reduceMul, Nat.reduceLeDiff, Nat.reduceSub, Nat.reduceLT, Int.reduceEq, Int.reduceLT, Int.reduceLE, Int.reduceGT, Int.reduceGE, Int.reduceAdd, Int.reduceSub, Int.reduceMul, Int.reduceNeg, Int.reduceToNat, reduceCtorEq, reduceIte, k1, k2]
    refine finM (h' := h4.set 3 .tomb) (vs := [v, I (bstC s (crew s))]) (.inr rfl) (by simp) ?_ ?_ ?_
    · simp only [takeMarks, List.length_cons, List.length_nil, k3]
    · simp (disch := first | assumption | omega | (simp only [az]; done)) only [ru, eq_self, if_true, if_false, BEq.rfl, binI, AO.row?, splice, fillL, mmAll, loadV, storeV, zeros, Am.rowAt, Am.part, addOff, Nat.reduceAdd, Nat.reduceMul, Nat.reduceLeDiff, Nat.reduceSub, Nat.reduceLT, Int.reduceEq, Int.reduceLT, Int.reduceLE, Int.reduceGT, Int.reduceGE, Int.reduceAdd, Int.reduceSub, Int.reduceMul, Int.reduceNeg, Int.reduceToNat, reduceCtorEq, reduceIte, List.mapM_cons, List.mapM_nil, getRes, Option.bind_eq_bind, Option.pure_def, Option.bind_some]
    · simp (disch := first | assumption | omega | (simp only [az]; done)) only [ru, eq_self, if_true, if_false, BEq.rfl, binI, AO.row?, splice, fillL, mmAll, loadV, storeV, zeros, Am.rowAt, Am.part, addOff, Nat.reduceAdd, Nat.reduceMul, Nat.reduceLeDiff, Nat.reduceSub, Nat.reduceLT, Int.reduceEq, Int.reduceLT, Int.reduceLE, Int.reduceGT, Int.reduceGE, Int.reduceAdd, Int.reduceSub, Int.reduceMul, Int.reduceNeg, Int.reduceToNat, reduceCtorEq, reduceIte, vw]
  · rintro D F fv h ho ⟨g0, ⟨v, g1, g1'⟩, g2, g3, g4⟩ rd hcr
    have hcr' := fun i (hi : i < F.length) => isCr_at hcr hi
    have rl := rd.s.len
    have hFn : F ≠ [] := by
      intro e; have := hcr.1; have := K.sp.ne; rw [e] at hcr; have := hcr.1; simp at this; omega
    have := R_rnd_of (E := E) (lim := 0) (args := [fv]) (P := fun r h' => r = Bo true ∧ (h'[0]? = some (.cells [I s.w.lo, I s.w.hi, p, b] false) ∧ (∃ v, h'[1]? = some (.cells [v] false) ∧ bstV (bst (fts s) (cst s) (D ++ [F])) h' v) ∧ h'[2]? = some (.cells [I (bstC s (bst (fts s) (cst s) (D ++ [F])))] false) ∧ h'[3]? = some .dfr ∧ h'[4]? = some (.loop .ready none 110 TS [10] As110 Bd110 3)) ∧ Fk 5 h h') g4 rfl (Nat.zero_le _) ?_
    · obtain ⟨r, h', hr, rfl, hp, fk⟩ := this
      exact ⟨h', hr, hp, fk⟩
    rw [hTS]
    simp only [setAll, List.set_cons_succ, List.set_cons_zero]
    rw [← hTS]
    unfold As110
    simp (disch := first | assumption | omega | (simp only [az]; done)) only [ru, eq_self, if_true, if_false, BEq.rfl, binI, AO.row?, splice, fillL, mmAll, loadV, storeV, zeros, Am.rowAt, Am.part, addOff, Nat.reduceAdd, Nat.reduceMul, Nat.reduceLeDiff, Nat.reduceSub, Nat.reduceLT, Int.reduceEq, Int.reduceLT, Int.reduceLE, Int.reduceGT, Int.reduceGE, Int.reduceAdd, Int.reduceSub, Int.reduceMul, Int.reduceNeg, Int.reduceToNat, reduceCtorEq, reduceIte]
    refine ⟨none, 110, TS, [10], As110, Bd110, 3, g4, ?_⟩
    obtain ⟨h6, hh6⟩ : ∃ h6, h6 = h.set 4 (AO.loop .busy none 110 TS [10] As110 Bd110 3) := ⟨_, rfl⟩
    rw [← hh6]
    have n0 : h6[0]? = some (.cells [I s.w.lo, I s.w.hi, p, b] false) := by rw [hh6, List.getElem?_set_ne (by omega)]; exact g0
    have n1 : h6[1]? = some (.cells [v] false) := by rw [hh6, List.getElem?_set_ne (by omega)]; exact g1
    have n2 : h6[2]? = some (.cells [I (bstC s (bst (fts s) (cst s) D))] false) := by rw [hh6, List.getElem?_set_ne (by omega)]; exact g2
    have n3 : h6[3]? = some .dfr := by rw [hh6, List.getElem?_set_ne (by omega)]; exact g3
    have n4 : h6[4]? = some (AO.loop .busy none 110 TS [10] As110 Bd110 3) := by rw [hh6, List.getElem?_set_self (by omega)]
    have l6 : h6.length = h.length := by rw [hh6]; simp
    have fk6 : Fk 5 h h6 := ⟨by omega, fun j hj hl => by rw [hh6, List.getElem?_set_ne (by omega)]⟩
    have vw := (rd.fk fk6).s.view (st := false) (k := 7)
    have g79 := fun st => s79 H K (resL_is F) (by rw [hcr.1]; omega) hcr' st
    have g123 := fun st => s123 H K (resL_is F) (by rw [hcr.1]; have := K.sp.le; omega) hcr' st
    simp only [seaV] at g79 g123
    have ef := fts_lft K hcr.1
    have fin : ∀ (h7 : List AO), h7.length = h.length → (∀ j, 5 ≤ j → j < h.length → h7[j]? = h6[j]?) → Fk 5 h h7 := fun h7 hl hk => ⟨by omega, fun j hj hl' => by rw [hk j hj hl', hh6, List.getElem?_set_ne (by omega)]⟩
    unfold Bd110
    have esn : bst (fts s) (cst s) (D ++ [F]) = bstS (fts s) (cst s) (bst (fts s) (cst s) D) F := bst_snoc
    by_cases hf : s.w.hi ≤ lft s F
    case neg =>
      have ef' : fts s F = false := by rw [ef]; exact decide_eq_false hf
      have eb : bst (fts s) (cst s) (D ++ [F]) = bst (fts s) (cst s) D := by rw [esn, bstS_no ef']
      rw [eb]
      simp (disch := first | assumption | omega | (simp only [az]; done)) only [ru, eq_self, if_true, if_false, BEq.rfl, binI, AO.row?, splice, fillL, mmAll, loadV, storeV, zeros, Am.rowAt, Am.part, addOff, Nat.reduceAdd, Nat.reduceMul, Nat.reduceLeDiff, Nat.reduceSub, Nat.reduceLT, Int.reduceEq, Int.reduceLT, Int.reduceLE, Int.reduceGT, Int.reduceGE, Int.reduceAdd, Int.reduceSub, Int.reduceMul, Int.reduceNeg, Int.reduceToNat, reduceCtorEq, reduceIte, lenV_sl H.p, lenV_sl H.b, elem_sp H.p, elem_bt H.b, view_sl H.p, view_sl H.b, scalar_sl H.p, scalar_sl H.b, cells_sl H.p, cells_sl H.b, pure_sl H.p, pure_sl H.b, Int.toNat_natCast, n0, vw, g79, hf, decide_false, Bool.not_false]
      refine ⟨.busy, none, 110, TS, [10], As110, Bd110, 3, n4, ?_⟩
      have fk7 : Fk 5 h (h6.set 4 (AO.loop LoopState.ready none 110 TS [10] As110 Bd110 3)) := fin _ (by simp; omega) fun j hj _ => by rw [List.getElem?_set_ne (by omega)]
      refine ⟨⟨by rw [List.getElem?_set_ne (by omega)]; exact n0, ⟨v, by rw [List.getElem?_set_ne (by omega)]; exact n1, ?_⟩, by rw [List.getElem?_set_ne (by omega)]; exact n2, by rw [List.getElem?_set_ne (by omega)]; exact n3, by rw [List.getElem?_set_self (by omega)]; rfl⟩, fk7⟩
      cases hb : bst (fts s) (cst s) D with
      | none => rw [hb] at g1'; exact g1'
      | some x => rw [hb] at g1'; exact ⟨g1'.1, g1'.2.fk fk7⟩
    have ef' : fts s F = true := by rw [ef]; exact decide_eq_true hf
    -- the crew is kept, or not
    have keep : ∀ (v0 : AV), bst (fts s) (cst s) (D ++ [F]) = some F → Fk 5 h (((h6.set 1 (.cells [fv] false)).set 2 (.cells [I (cst s F)] false)).set 4 (AO.loop LoopState.ready none 110 TS [10] As110 Bd110 3)) ∧
        bstV (bst (fts s) (cst s) (D ++ [F])) (((h6.set 1 (.cells [fv] false)).set 2 (.cells [I (cst s F)] false)).set 4 (AO.loop LoopState.ready none 110 TS [10] As110 Bd110 3)) fv := fun v0 e => by
      have fk7 := fin (((h6.set 1 (.cells [fv] false)).set 2 (.cells [I (cst s F)] false)).set 4 (AO.loop LoopState.ready none 110 TS [10] As110 Bd110 3)) (by simp; omega) fun j hj _ => by rw [List.getElem?_set_ne (by omega), List.getElem?_set_ne (by omega), List.getElem?_set_ne (by omega)]
      exact ⟨fk7, by rw [e]; exact ⟨hFn, rd.fk fk7⟩⟩
    have setk : ∀ (e : bst (fts s) (cst s) (D ++ [F]) = some F), (((h6.set 1 (.cells [fv] false)).set 2 (.cells [I (cst s F)] false)).set 4 (AO.loop LoopState.ready none 110 TS [10] As110 Bd110 3))[0]? = some (.cells [I s.w.lo, I s.w.hi, p, b] false) ∧
        (∃ v, (((h6.set 1 (.cells [fv] false)).set 2 (.cells [I (cst s F)] false)).set 4 (AO.loop LoopState.ready none 110 TS [10] As110 Bd110 3))[1]? = some (.cells [v] false) ∧ bstV (bst (fts s) (cst s) (D ++ [F])) (((h6.set 1 (.cells [fv] false)).set 2 (.cells [I (cst s F)] false)).set 4 (AO.loop LoopState.ready none 110 TS [10] As110 Bd110 3)) v) ∧
        (((h6.set 1 (.cells [fv] false)).set 2 (.cells [I (cst s F)] false)).set 4 (AO.loop LoopState.ready none 110 TS [10] As110 Bd110 3))[2]? = some (.cells [I (bstC s (bst (fts s) (cst s) (D ++ [F])))] false) ∧
        (((h6.set 1 (.cells [fv] false)).set 2 (.cells [I (cst s F)] false)).set 4 (AO.loop LoopState.ready none 110 TS [10] As110 Bd110 3))[3]? = some .dfr ∧
        (((h6.set 1 (.cells [fv] false)).set 2 (.cells [I (cst s F)] false)).set 4 (AO.loop LoopState.ready none 110 TS [10] As110 Bd110 3))[4]? = some (AO.loop LoopState.ready none 110 TS [10] As110 Bd110 3) := fun e => by
      refine ⟨?_, ⟨fv, ?_, (keep v e).2⟩, ?_, ?_, ?_⟩
      · rw [List.getElem?_set_ne (by omega), List.getElem?_set_ne (by omega), List.getElem?_set_ne (by omega)]; exact n0
      · rw [List.getElem?_set_ne (by omega), List.getElem?_set_ne (by omega), List.getElem?_set_self (by omega)]
      · rw [e, List.getElem?_set_ne (by omega), List.getElem?_set_self (by simp; omega)]; rfl
      · rw [List.getElem?_set_ne (by omega), List.getElem?_set_ne (by omega), List.getElem?_set_ne (by omega)]; exact n3
      · rw [List.getElem?_set_self (by simp; omega)]
    have at2 : (h6.set 1 (.cells [fv] false))[2]? = some (.cells [I (bstC s (bst (fts s) (cst s) D))] false) := by rw [List.getElem?_set_ne (by omega)]; exact n2
    have at4 : ((h6.set 1 (.cells [fv] false)).set 2 (.cells [I (cst s F)] false))[4]? = some (AO.loop .busy none 110 TS [10] As110 Bd110 3) := by rw [List.getElem?_set_ne (by omega), List.getElem?_set_ne (by omega)]; exact n4
    cases hb : bst (fts s) (cst s) D with
    | none =>
      rw [hb] at g1' n2 esn at2
      have ev : v = .nils := g1'
      subst ev
      have e : bst (fts s) (cst s) (D ++ [F]) = some F := by rw [esn, bstS_new ef']
      simp (disch := first | assumption | omega | (simp only [az]; done)) only [ru, eq_self, if_true, if_false, BEq.rfl, binI, AO.row?, splice, fillL, mmAll, loadV, storeV, zeros, Am.rowAt, Am.part, addOff, Nat.reduceAdd, Nat.reduceMul, Nat.reduceLeDiff, Nat.reduceSub, Nat.reduceLT, Int.reduceEq, Int.reduceLT, Int.reduceLE, Int.reduceGT, Int.reduceGE, Int.reduceAdd, Int.reduceSub, Int.reduceMul, Int.reduceNeg, Int.reduceToNat, reduceCtorEq, reduceIte, lenV_sl H.p, lenV_sl H.b, elem_sp H.p, elem_bt H.b, view_sl H.p, view_sl H.b, scalar_sl H.p, scalar_sl H.b, cells_sl H.p, cells_sl H.b, pure_sl H.p, pure_sl H.b, Int.toNat_natCast, n0, n1, n2, at2, vw, g79, g123, hf, decide_true, Bool.not_true, pex_isNil, rl.2.1, rl.2.2, List.drop_one, List.tail_cons]
      exact ⟨.busy, none, 110, TS, [10], As110, Bd110, 3, at4, setk e, (keep .nils e).1⟩
    | some x =>
      rw [hb] at g1' n2 esn at2
      obtain ⟨hx, rx⟩ := g1'
      have ⟨xo, xsh, xb, xe, xc⟩ : ∃ o sh, 5 ≤ o ∧ v = .ms 1 o 0 x.length ∧ h[o]? = some (.cells (x.flatMap fun n => [I n]) sh) := by
        rcases rx with ⟨h, _⟩ | ⟨_, h⟩
        · exact absurd h hx
        · exact h
      have eC : bstC s (some x) = cst s x := rfl
      rw [eC] at n2 at2
      by_cases hlt : cst s F < cst s x
      · have e : bst (fts s) (cst s) (D ++ [F]) = some F := by rw [esn, bstS_lt ef' hlt]
        rw [xe] at n1
        simp (disch := first | assumption | omega | (simp only [az]; done)) only [ru, eq_self, if_true, if_false, BEq.rfl, binI, AO.row?, splice, fillL, mmAll, loadV, storeV, zeros, Am.rowAt, Am.part, addOff, Nat.reduceAdd, Nat.reduceMul, Nat.reduceLeDiff, Nat.reduceSub, Nat.reduceLT, Int.reduceEq, Int.reduceLT, Int.reduceLE, Int.reduceGT, Int.reduceGE, Int.reduceAdd, Int.reduceSub, Int.reduceMul, Int.reduceNeg, Int.reduceToNat, reduceCtorEq, reduceIte, lenV_sl H.p, lenV_sl H.b, elem_sp H.p, elem_bt H.b, view_sl H.p, view_sl H.b, scalar_sl H.p, scalar_sl H.b, cells_sl H.p, cells_sl H.b, pure_sl H.p, pure_sl H.b, Int.toNat_natCast, n0, n1, n2, at2, vw, g79, g123, hf, hlt, decide_true, Bool.not_true, pex_isNil, rl.2.1, rl.2.2, List.drop_one, List.tail_cons]
        exact ⟨.busy, none, 110, TS, [10], As110, Bd110, 3, at4, setk e, (keep .nils e).1⟩
      · have e : bst (fts s) (cst s) (D ++ [F]) = some x := by rw [esn, bstS_ge ef' hlt]
        rw [e]
        have fk7 : Fk 5 h (h6.set 4 (AO.loop LoopState.ready none 110 TS [10] As110 Bd110 3)) := fin _ (by simp; omega) fun j hj _ => by rw [List.getElem?_set_ne (by omega)]
        have n1' := n1
        rw [xe] at n1
        simp (disch := first | assumption | omega | (simp only [az]; done)) only [ru, eq_self, if_true, if_false, BEq.rfl, binI, AO.row?, splice, fillL, mmAll, loadV, storeV, zeros, Am.rowAt, Am.part, addOff, Nat.reduceAdd, Nat.reduceMul, Nat.reduceLeDiff, Nat.reduceSub, Nat.reduceLT, Int.reduceEq, Int.reduceLT, Int.reduceLE, Int.reduceGT, Int.reduceGE, Int.reduceAdd, Int.reduceSub, Int.reduceMul, Int.reduceNeg, Int.reduceToNat, reduceCtorEq, reduceIte, lenV_sl H.p, lenV_sl H.b, elem_sp H.p, elem_bt H.b, view_sl H.p, view_sl H.b, scalar_sl H.p, scalar_sl H.b, cells_sl H.p, cells_sl H.b, pure_sl H.p, pure_sl H.b, Int.toNat_natCast, n0, n1, n2, vw, g79, g123, hf, hlt, decide_true, decide_false, Bool.not_true, pex_isNil]
        exact ⟨.busy, none, 110, TS, [10], As110, Bd110, 3, n4, ⟨by rw [List.getElem?_set_ne (by omega)]; exact n0, ⟨v, by rw [List.getElem?_set_ne (by omega)]; exact n1', hx, rx.fk fk7⟩, by rw [List.getElem?_set_ne (by omega), eC]; exact n2, by rw [List.getElem?_set_ne (by omega)]; exact n3, by rw [List.getElem?_set_self (by omega)]; rfl⟩, fk7⟩
end Go.Proofs.Ytdmhbefdidmliaa.S

/-
Crew, Cheap and Most of both sides.
-/
namespace Go.Proofs.Ytdmhbefdidmliaa.S
open Go Go.Am Go.Proofs.Ytdmhbefdidmliaa.T
set_option maxRecDepth 100000
set_option linter.unusedSimpArgs false
set_option linter.unusedVariables false

theorem resL_cons {a : Int} {t : List Int} : resL (a :: t) = .cs 1 (t.length + 1) ((a :: t).flatMap intL) := by
  unfold resL slV; rw [if_neg (by simp)]; rfl
theorem resL_nil : resL [] = .nils := rfl
theorem crws_le {s : Sea} (K : SeaG s) : (crws s).length ≤ 1296 := Nat.le_trans crw_len (pow_le K.nb K.sp.le)
theorem fin3 {lim i j k : Nat} {P : AV → List AO → Prop} {ts : List AV} {h : List AO} : Done lim [.tmp i, .tmp j, .tmp k] P .ret ⟨ts, h, []⟩ = P (.tup [ts.getD i .undef, ts.getD j .undef, ts.getD k .undef]) h := by
  simp [Done, finish, takeMarks, getRes]
theorem take_snoc {α : Type} {l : List α} {i : Nat} {d : α} (h : i < l.length) : l.take (i + 1) = l.take i ++ [l.getD i d] := by
  rw [List.take_succ_eq_append_getElem h, List.getD_eq_getElem?_getD, List.getElem?_eq_getElem h]; rfl

def creR (s : Sea) : AV := if s.valid then (match crew s with | none => .tup [.nils, I 3] | some l => .tup [resL l, I 0]) else .tup [.nils, I 50]
def cheR (s : Sea) : AV := if s.valid then (match crew s with | none => .tup [I 0, I 3] | some l => .tup [I (cst s l), I 0]) else .tup [I 0, I 50]
def mosR (s : Sea) : AV := if s.valid then (if s.pl.length ≤ s.bo.length then .tup [I (most s), I 0] else .tup [I 0, I 3]) else .tup [I 0, I 50]

section
variable {s : Sea} {p b : AV}
theorem crew_ne (K : SeaG s) {l : List Int} (h : isCr s l) : l ≠ [] := by
  have := K.sp.ne
  intro e; rw [e] at h; have := h.1; simp at this; omega

set_option maxHeartbeats 2000000 in
theorem s66 (H : SeaOk s p b) : Iso E 66 [seaV s p b] false = some (creR s) := by
  have g1 := fun st => s53 H st
  refine Iso_of (es _ _ _ _) e66 ?_
  simp only [f66, seaV, creR] at g1 ⊢
  cases hv : s.valid
  · simp (disch := first | assumption | omega | (simp only [az]; done)) only [ru, eq_self, if_true, if_false, BEq.rfl, binI, AO.row?, splice, fillL, mmAll, loadV, storeV, zeros, Am.rowAt, Am.part, addOff, Nat.reduceAdd, Nat.reduceMul, Nat.reduceLeDiff, Nat.reduceSub, Nat.reduceLT, Int.reduceEq, Int.reduceLT, Int.reduceLE, Int.reduceGT, Int.reduceGE, Int.reduceAdd, Int.reduceSub, Int.reduceMul, Int.reduceNeg, Int.reduceToNat, reduceCtorEq, reduceIte, lenV_sl H.p, lenV_sl H.b, elem_sp H.p, elem_bt H.b, view_sl H.p, view_sl H.b, scalar_sl H.p, scalar_sl H.b, cells_sl H.p, cells_sl H.b, pure_sl H.p, pure_sl H.b, Int.toNat_natCast, g1, hv, vE, Bool.false_eq_true]
  have K := (valid_good hv).1
  have g2 := fun st => s100 H K.sp.le K.nb st
  have g3 := fun st => s101 H K st
  have hle := crws_le K
  have hmem : ∀ l ∈ crws s, isCr s l := fun l hl => mem_crws.1 hl
  have ec : crew s = bst (fts s) (cst s) (crws s) := rfl
  rw [ec]
  obtain ⟨L, hL⟩ : ∃ L, L = crws s := ⟨_, rfl⟩
  rw [← hL] at hle hmem ⊢
  simp only [← hL, seaV] at g2
  have LL := resLL_is L
  obtain ⟨lv, hlv⟩ : ∃ lv, lv = resLL L := ⟨_, rfl⟩
  rw [← hlv] at LL
  simp only [← hlv] at g2
  simp only [seaV] at g3
  obtain ⟨nv, hnv⟩ : ∃ nv, nv = resL (nds s) := ⟨_, rfl⟩
  have NV := resL_is (nds s)
  rw [← hnv] at NV
  simp only [← hnv] at g3
  simp (disch := first | assumption | omega | (simp only [az]; done)) only [ru, eq_self, if_true, if_false, BEq.rfl, binI, AO.row?, splice, fillL, mmAll, loadV, storeV, zeros, Am.rowAt, Am.part, addOff, Nat.reduceAdd, Nat.reduceMul, Nat.reduceLeDiff, Nat.reduceSub, Nat.reduceLT, Int.reduceEq, Int.reduceLT, Int.reduceLE, Int.reduceGT, Int.reduceGE, Int.reduceAdd, Int.reduceSub, Int.reduceMul, Int.reduceNeg, Int.reduceToNat, reduceCtorEq, reduceIte, lenV_sl H.p, lenV_sl H.b, elem_sp H.p, elem_bt H.b, view_sl H.p, view_sl H.b, scalar_sl H.p, scalar_sl H.b, cells_sl H.p, cells_sl H.b, pure_sl H.p, pure_sl H.b, Int.toNat_natCast, g1, g2, g3, hv, vE, view_nils]
  refine G_loop_ind (fun m ts h mk => ∃ k : Nat, k ≤ L.length ∧ m = L.length - k ∧ ts.length = 56 ∧ ts.getD 1 .undef = .ptr 0 0 ∧ ts.getD 5 .undef = resL ((bst (fts s) (cst s) (L.take k)).getD []) ∧ ts.getD 6 .undef = lv ∧ ts.getD 7 .undef = nv ∧ ts.getD 8 .undef = I k ∧ h = [.cells [I s.w.lo, I s.w.hi, p, b] false] ∧ mk = []) ?_ _ _ _ _
    ⟨0, Nat.zero_le _, rfl, rfl, rfl, rfl, rfl, rfl, rfl, rfl, rfl⟩
  rintro m ts h mk ih ⟨k, hk, rfl, hl', q1, q5, q6, q7, q8, rfl, rfl⟩
  rw [lit_all hl']
  simp only [lit0, litS, Nat.reduceAdd, q1, q5, q6, q7, q8]
  simp (disch := first | assumption | omega | (simp only [az]; done)) only [ru, eq_self, if_true, if_false, BEq.rfl, binI, AO.row?, splice, fillL, mmAll, loadV, storeV, zeros, Am.rowAt, Am.part, addOff, Nat.reduceAdd, Nat.reduceMul, Nat.reduceLeDiff, Nat.reduceSub, Nat.reduceLT, Int.reduceEq, Int.reduceLT, Int.reduceLE, Int.reduceGT, Int.reduceGE, Int.reduceAdd, Int.reduceSub, Int.reduceMul, Int.reduceNeg, Int.reduceToNat, reduceCtorEq, reduceIte, lenV_sl LL]
  by_cases hlt : (k : Int) < L.length
  case pos =>
    have hk' : k < L.length := by omega
    have hcr := hmem _ (getD_memL hk')
    have hcr' := fun i (hi : i < (L.getD k []).length) => isCr_at hcr hi
    obtain ⟨F, hF⟩ : ∃ F, F = L.getD k [] := ⟨_, rfl⟩
    rw [← hF] at hcr
    simp only [← hF] at hcr'
    have FF := resL_is F
    have g29 := fun st => s29 H FF (by rw [hcr.1]; omega) hcr' NV st
    have g36 := fun st => s36 H K FF (by rw [hcr.1]; have := K.sp.le; omega) hcr' st
    have et : bst (fts s) (cst s) (L.take (k + 1)) = bstS (fts s) (cst s) (bst (fts s) (cst s) (L.take k)) F := by rw [take_snoc (d := []) hk', ← hF, bst_snoc]
    simp only [seaV] at g29 g36
    cases hf : fts s F
    · rw [hf] at g29
      simp (disch := first | assumption | omega | (simp only [az]; done)) only [ru, eq_self, if_true, if_false, BEq.rfl, binI, AO.row?, splice, fillL, mmAll, loadV, storeV, zeros, Am.rowAt, Am.part, addOff, Nat.reduceAdd, Nat.reduceMul, Nat.reduceLeDiff, Nat.reduceSub, Nat.reduceLT, Int.reduceEq, Int.reduceLT, Int.reduceLE, Int.reduceGT, Int.reduceGE, Int.reduceAdd, Int.reduceSub, Int.reduceMul, Int.reduceNeg, Int.reduceToNat, reduceCtorEq, reduceIte, lenV_sl H.p, lenV_sl H.b, elem_sp H.p, elem_bt H.b, view_sl H.p, view_sl H.b, scalar_sl H.p, scalar_sl H.b, cells_sl H.p, cells_sl H.b, pure_sl H.p, pure_sl H.b, Int.toNat_natCast, lenV_sl NV, elem_in NV, view_sl NV, scalar_sl NV, cells_sl NV, pure_sl NV, Int.toNat_natCast, hlt, elem_ll LL, Int.toNat_natCast, ← hF, view_sl FF, g29, gUn]
      exact ih (L.length - (k + 1)) _ _ _ (by omega) ⟨k + 1, by omega, rfl, rfl, rfl, by rw [et, bstS_no hf]; rfl, rfl, rfl, rfl, rfl, rfl⟩
    rw [hf] at g29
    cases hb : bst (fts s) (cst s) (L.take k) with
    | none =>
      rw [hb] at et
      simp (disch := first | assumption | omega | (simp only [az]; done)) only [ru, eq_self, if_true, if_false, BEq.rfl, binI, AO.row?, splice, fillL, mmAll, loadV, storeV, zeros, Am.rowAt, Am.part, addOff, Nat.reduceAdd, Nat.reduceMul, Nat.reduceLeDiff, Nat.reduceSub, Nat.reduceLT, Int.reduceEq, Int.reduceLT, Int.reduceLE, Int.reduceGT, Int.reduceGE, Int.reduceAdd, Int.reduceSub, Int.reduceMul, Int.reduceNeg, Int.reduceToNat, reduceCtorEq, reduceIte, lenV_sl H.p, lenV_sl H.b, elem_sp H.p, elem_bt H.b, view_sl H.p, view_sl H.b, scalar_sl H.p, scalar_sl H.b, cells_sl H.p, cells_sl H.b, pure_sl H.p, pure_sl H.b, Int.toNat_natCast, lenV_sl NV, elem_in NV, view_sl NV, scalar_sl NV, cells_sl NV, pure_sl NV, Int.toNat_natCast, hlt, elem_ll LL, Int.toNat_natCast, ← hF, view_sl FF, g29, gUn, hb, resL_nil, decide_true]
      exact ih (L.length - (k + 1)) _ _ _ (by omega) ⟨k + 1, by omega, rfl, rfl, rfl, by rw [et, bstS_new hf]; rfl, rfl, rfl, rfl, rfl, rfl⟩
    | some x =>
      rw [hb] at et
      have hx := bst_mem hb
      have hxc := hmem x (List.mem_of_mem_take hx)
      have hxc' := fun i (hi : i < x.length) => isCr_at hxc hi
      have XX := resL_is x
      have g36x := fun st => s36 H K XX (by rw [hxc.1]; have := K.sp.le; omega) hxc' st
      simp only [seaV] at g36x
      have xl : ¬ (x.length : Int) = 0 := by have := hxc.1; have := K.sp.ne; omega
      by_cases hc : cst s F < cst s x
      · simp (disch := first | assumption | omega | (simp only [az]; done)) only [ru, eq_self, if_true, if_false, BEq.rfl, binI, AO.row?, splice, fillL, mmAll, loadV, storeV, zeros, Am.rowAt, Am.part, addOff, Nat.reduceAdd, Nat.reduceMul, Nat.reduceLeDiff, Nat.reduceSub, Nat.reduceLT, Int.reduceEq, Int.reduceLT, Int.reduceLE, Int.reduceGT, Int.reduceGE, Int.reduceAdd, Int.reduceSub, Int.reduceMul, Int.reduceNeg, Int.reduceToNat, reduceCtorEq, reduceIte, lenV_sl H.p, lenV_sl H.b, elem_sp H.p, elem_bt H.b, view_sl H.p, view_sl H.b, scalar_sl H.p, scalar_sl H.b, cells_sl H.p, cells_sl H.b, pure_sl H.p, pure_sl H.b, Int.toNat_natCast, lenV_sl NV, elem_in NV, view_sl NV, scalar_sl NV, cells_sl NV, pure_sl NV, Int.toNat_natCast, lenV_sl XX, elem_in XX, view_sl XX, scalar_sl XX, cells_sl XX, pure_sl XX, Int.toNat_natCast, hlt, elem_ll LL, Int.toNat_natCast, ← hF, view_sl FF, g29, g36, g36x, gUn, hb, xl, hc, decide_false, decide_true]
        exact ih (L.length - (k + 1)) _ _ _ (by omega) ⟨k + 1, by omega, rfl, rfl, rfl, by rw [et, bstS_lt hf hc]; rfl, rfl, rfl, rfl, rfl, rfl⟩
      · simp (disch := first | assumption | omega | (simp only [az]; done)) only [ru, eq_self, if_true, if_false, BEq.rfl, binI, AO.row?, splice, fillL, mmAll, loadV, storeV, zeros, Am.rowAt, Am.part, addOff, Nat.reduceAdd, Nat.reduceMul, Nat.reduceLeDiff, Nat.reduceSub, Nat.reduceLT, Int.reduceEq, Int.reduceLT, Int.reduceLE, Int.reduceGT, Int.reduceGE, Int.reduceAdd, Int.reduceSub, Int.reduceMul, Int.reduceNeg, Int.reduceToNat, reduceCtorEq, reduceIte, lenV_sl H.p, lenV_sl H.b, elem_sp H.p, elem_bt H.b, view_sl H.p, view_sl H.b, scalar_sl H.p, scalar_sl H.b, cells_sl H.p, cells_sl H.b, pure_sl H.p, pure_sl H.b, Int.toNat_natCast, lenV_sl NV, elem_in NV, view_sl NV, scalar_sl NV, cells_sl NV, pure_sl NV, Int.toNat_natCast, lenV_sl XX, elem_in XX, view_sl XX, scalar_sl XX, cells_sl XX, pure_sl XX, Int.toNat_natCast, hlt, elem_ll LL, Int.toNat_natCast, ← hF, view_sl FF, g29, g36, g36x, gUn, hb, xl, hc, decide_false]
        exact ih (L.length - (k + 1)) _ _ _ (by omega) ⟨k + 1, by omega, rfl, rfl, rfl, by rw [et, bstS_ge hf hc]; rfl, rfl, rfl, rfl, rfl, rfl⟩
  obtain rfl : k = L.length := by omega
  rw [List.take_length]
  cases hb : bst (fts s) (cst s) L with
  | none => simp (disch := first | assumption | omega | (simp only [az]; done)) only [ru, eq_self, if_true, if_false, BEq.rfl, binI, AO.row?, splice, fillL, mmAll, loadV, storeV, zeros, Am.rowAt, Am.part, addOff, Nat.reduceAdd, Nat.reduceMul, Nat.reduceLeDiff, Nat.reduceSub, Nat.reduceLT, Int.reduceEq, Int.reduceLT, Int.reduceLE, Int.reduceGT, Int.reduceGE, Int.reduceAdd, Int.reduceSub, Int.reduceMul, Int.reduceNeg, Int.reduceToNat, reduceCtorEq, reduceIte, hlt, hb, resL_nil, decide_true]
  | some x =>
    have hxc := hmem x (bst_mem hb)
    have xl : ¬ (x.length : Int) = 0 := by have := hxc.1; have := K.sp.ne; omega
    have XX := resL_is x
    simp (disch := first | assumption | omega | (simp only [az]; done)) only [ru, eq_self, if_true, if_false, BEq.rfl, binI, AO.row?, splice, fillL, mmAll, loadV, storeV, zeros, Am.rowAt, Am.part, addOff, Nat.reduceAdd, Nat.reduceMul, Nat.reduceLeDiff, Nat.reduceSub, Nat.reduceLT, Int.reduceEq, Int.reduceLT, Int.reduceLE, Int.reduceGT, Int.reduceGE, Int.reduceAdd, Int.reduceSub, Int.reduceMul, Int.reduceNeg, Int.reduceToNat, reduceCtorEq, reduceIte, lenV_sl XX, elem_in XX, view_sl XX, scalar_sl XX, cells_sl XX, pure_sl XX, Int.toNat_natCast, hlt, hb, xl, decide_false]
where
  bst_mem {f : List Int → Bool} {cost : List Int → Int} {l : List (List Int)} {x : List Int} : bst f cost l = some x → x ∈ l := by
    refine snocRec (fun l => bst f cost l = some x → x ∈ l) l (fun h => by cases h) ?_
    intro l c ih h
    rw [bst_snoc] at h
    cases hf : f c
    · rw [bstS_no hf] at h; exact List.mem_append_left _ (ih h)
    · cases hb : bst f cost l with
      | none => rw [hb, bstS_new hf] at h; cases h; simp
      | some y =>
        rw [hb] at h ih
        by_cases hl : cost c < cost y
        · rw [bstS_lt hf hl] at h; cases h; simp
        · rw [bstS_ge hf hl] at h; exact List.mem_append_left _ (ih h)
theorem s65 (H : SeaOk s p b) (st : Bool) : Iso E 65 [seaV s p b] st = some (cheR s) := by
  have g1 := s66 H
  refine Iso_of (es _ _ _ _) e65 ?_
  simp only [f65, seaV, creR, cheR] at g1 ⊢
  cases hv : s.valid
  · simp only [hv, Bool.false_eq_true, if_false] at g1
    simp (disch := first | assumption | omega | (simp only [az]; done)) only [ru, eq_self, if_true, if_false, BEq.rfl, binI, AO.row?, splice, fillL, mmAll, loadV, storeV, zeros, Am.rowAt, Am.part, addOff, Nat.reduceAdd, Nat.reduceMul, Nat.reduceLeDiff, Nat.reduceSub, Nat.reduceLT, Int.reduceEq, Int.reduceLT, Int.reduceLE, Int.reduceGT, Int.reduceGE, Int.reduceAdd, Int.reduceSub, Int.reduceMul, Int.reduceNeg, Int.reduceToNat, reduceCtorEq, reduceIte, lenV_sl H.p, lenV_sl H.b, elem_sp H.p, elem_bt H.b, view_sl H.p, view_sl H.b, scalar_sl H.p, scalar_sl H.b, cells_sl H.p, cells_sl H.b, pure_sl H.p, pure_sl H.b, Int.toNat_natCast, g1, hv, Bool.false_eq_true]
  have K := (valid_good hv).1
  cases hc : crew s with
  | none =>
    simp only [hv, hc, if_true] at g1
    simp (disch := first | assumption | omega | (simp only [az]; done)) only [ru, eq_self, if_true, if_false, BEq.rfl, binI, AO.row?, splice, fillL, mmAll, loadV, storeV, zeros, Am.rowAt, Am.part, addOff, Nat.reduceAdd, Nat.reduceMul, Nat.reduceLeDiff, Nat.reduceSub, Nat.reduceLT, Int.reduceEq, Int.reduceLT, Int.reduceLE, Int.reduceGT, Int.reduceGE, Int.reduceAdd, Int.reduceSub, Int.reduceMul, Int.reduceNeg, Int.reduceToNat, reduceCtorEq, reduceIte, lenV_sl H.p, lenV_sl H.b, elem_sp H.p, elem_bt H.b, view_sl H.p, view_sl H.b, scalar_sl H.p, scalar_sl H.b, cells_sl H.p, cells_sl H.b, pure_sl H.p, pure_sl H.b, Int.toNat_natCast, g1, hv]
  | some l =>
    simp only [hv, hc, if_true] at g1
    have hcr := (crew_some hc).1
    have XX := resL_is l
    have g36 := fun st => s36 H K XX (by rw [hcr.1]; have := K.sp.le; omega) (fun i hi => isCr_at hcr hi) st
    simp only [seaV] at g36
    simp (disch := first | assumption | omega | (simp only [az]; done)) only [ru, eq_self, if_true, if_false, BEq.rfl, binI, AO.row?, splice, fillL, mmAll, loadV, storeV, zeros, Am.rowAt, Am.part, addOff, Nat.reduceAdd, Nat.reduceMul, Nat.reduceLeDiff, Nat.reduceSub, Nat.reduceLT, Int.reduceEq, Int.reduceLT, Int.reduceLE, Int.reduceGT, Int.reduceGE, Int.reduceAdd, Int.reduceSub, Int.reduceMul, Int.reduceNeg, Int.reduceToNat, reduceCtorEq, reduceIte, lenV_sl H.p, lenV_sl H.b, elem_sp H.p, elem_bt H.b, view_sl H.p, view_sl H.b, scalar_sl H.p, scalar_sl H.b, cells_sl H.p, cells_sl H.b, pure_sl H.p, pure_sl H.b, Int.toNat_natCast, lenV_sl XX, elem_in XX, view_sl XX, scalar_sl XX, cells_sl XX, pure_sl XX, Int.toNat_natCast, g1, g36, hv]
/-- the program's both answers -/
def cc3 (s : Sea) : AV := if s.valid then (match crew s with | none => .tup [.nils, I 0, I 3] | some l => .tup [resL l, I (cst s l), I 0]) else .tup [.nils, I 0, I 50]
theorem s81 (H : SeaOk s p b) : Iso E 81 [seaV s p b] false = some (cc3 s) := by
  have g1 := fun st => s52 H st
  refine Iso_of (es _ _ _ _) e81 ?_
  simp only [f81, seaV, cc3] at g1 ⊢
  cases hv : s.valid
  · simp (disch := first | assumption | omega | (simp only [az]; done)) only [ru, eq_self, if_true, if_false, BEq.rfl, binI, AO.row?, splice, fillL, mmAll, loadV, storeV, zeros, Am.rowAt, Am.part, addOff, Nat.reduceAdd, Nat.reduceMul, Nat.reduceLeDiff, Nat.reduceSub, Nat.reduceLT, Int.reduceEq, Int.reduceLT, Int.reduceLE, Int.reduceGT, Int.reduceGE, Int.reduceAdd, Int.reduceSub, Int.reduceMul, Int.reduceNeg, Int.reduceToNat, reduceCtorEq, reduceIte, lenV_sl H.p, lenV_sl H.b, elem_sp H.p, elem_bt H.b, view_sl H.p, view_sl H.b, scalar_sl H.p, scalar_sl H.b, cells_sl H.p, cells_sl H.b, pure_sl H.p, pure_sl H.b, Int.toNat_natCast, g1, hv, vE, fin3, Bool.false_eq_true]
  have K := (valid_good hv).1
  have g2 := s110 H K
  simp only [seaV] at g2
  cases hc : crew s with
  | none =>
    rw [hc] at g2
    simp only [Option.getD_none, resL_nil, bstC] at g2
    simp (disch := first | assumption | omega | (simp only [az]; done)) only [ru, eq_self, if_true, if_false, BEq.rfl, binI, AO.row?, splice, fillL, mmAll, loadV, storeV, zeros, Am.rowAt, Am.part, addOff, Nat.reduceAdd, Nat.reduceMul, Nat.reduceLeDiff, Nat.reduceSub, Nat.reduceLT, Int.reduceEq, Int.reduceLT, Int.reduceLE, Int.reduceGT, Int.reduceGE, Int.reduceAdd, Int.reduceSub, Int.reduceMul, Int.reduceNeg, Int.reduceToNat, reduceCtorEq, reduceIte, lenV_sl H.p, lenV_sl H.b, elem_sp H.p, elem_bt H.b, view_sl H.p, view_sl H.b, scalar_sl H.p, scalar_sl H.b, cells_sl H.p, cells_sl H.b, pure_sl H.p, pure_sl H.b, Int.toNat_natCast, g1, g2, hv, vE, fin3, pvFn, pex_isNil]
  | some l =>
    rw [hc] at g2
    have hcr := (crew_some hc).1
    have XX := resL_is l
    match l, crew_ne K hcr with
    | a :: t, _ =>
      simp only [Option.getD_some, bstC] at g2
      have vw := fun h n => view_sl XX h n
      simp only [resL_cons] at g2 vw ⊢
      simp (disch := first | assumption | omega | (simp only [az]; done)) only [ru, eq_self, if_true, if_false, BEq.rfl, binI, AO.row?, splice, fillL, mmAll, loadV, storeV, zeros, Am.rowAt, Am.part, addOff, Nat.reduceAdd, Nat.reduceMul, Nat.reduceLeDiff, Nat.reduceSub, Nat.reduceLT, Int.reduceEq, Int.reduceLT, Int.reduceLE, Int.reduceGT, Int.reduceGE, Int.reduceAdd, Int.reduceSub, Int.reduceMul, Int.reduceNeg, Int.reduceToNat, reduceCtorEq, reduceIte, lenV_sl H.p, lenV_sl H.b, elem_sp H.p, elem_bt H.b, view_sl H.p, view_sl H.b, scalar_sl H.p, scalar_sl H.b, cells_sl H.p, cells_sl H.b, pure_sl H.p, pure_sl H.b, Int.toNat_natCast, g1, g2, hv, vE, fin3, pex_isNil, vw]
theorem s31 (H : SeaOk s p b) : Iso E 31 [seaV s p b] false = some (creR s) := by
  have g1 := s81 H
  refine Iso_of (es _ _ _ _) e31 ?_
  simp only [f31, seaV, cc3, creR] at g1 ⊢
  cases hv : s.valid
  · simp only [hv, Bool.false_eq_true, if_false] at g1
    simp (disch := first | assumption | omega | (simp only [az]; done)) only [ru, eq_self, if_true, if_false, BEq.rfl, binI, AO.row?, splice, fillL, mmAll, loadV, storeV, zeros, Am.rowAt, Am.part, addOff, Nat.reduceAdd, Nat.reduceMul, Nat.reduceLeDiff, Nat.reduceSub, Nat.reduceLT, Int.reduceEq, Int.reduceLT, Int.reduceLE, Int.reduceGT, Int.reduceGE, Int.reduceAdd, Int.reduceSub, Int.reduceMul, Int.reduceNeg, Int.reduceToNat, reduceCtorEq, reduceIte, lenV_sl H.p, lenV_sl H.b, elem_sp H.p, elem_bt H.b, view_sl H.p, view_sl H.b, scalar_sl H.p, scalar_sl H.b, cells_sl H.p, cells_sl H.b, pure_sl H.p, pure_sl H.b, Int.toNat_natCast, g1, hv, Bool.false_eq_true]
  cases hc : crew s with
  | none =>
    simp only [hv, hc, if_true] at g1
    simp (disch := first | assumption | omega | (simp only [az]; done)) only [ru, eq_self, if_true, if_false, BEq.rfl, binI, AO.row?, splice, fillL, mmAll, loadV, storeV, zeros, Am.rowAt, Am.part, addOff, Nat.reduceAdd, Nat.reduceMul, Nat.reduceLeDiff, Nat.reduceSub, Nat.reduceLT, Int.reduceEq, Int.reduceLT, Int.reduceLE, Int.reduceGT, Int.reduceGE, Int.reduceAdd, Int.reduceSub, Int.reduceMul, Int.reduceNeg, Int.reduceToNat, reduceCtorEq, reduceIte, lenV_sl H.p, lenV_sl H.b, elem_sp H.p, elem_bt H.b, view_sl H.p, view_sl H.b, scalar_sl H.p, scalar_sl H.b, cells_sl H.p, cells_sl H.b, pure_sl H.p, pure_sl H.b, Int.toNat_natCast, g1, hv]
  | some l =>
    simp only [hv, hc, if_true] at g1
    have XX := resL_is l
    simp (disch := first | assumption | omega | (simp only [az]; done)) only [ru, eq_self, if_true, if_false, BEq.rfl, binI, AO.row?, splice, fillL, mmAll, loadV, storeV, zeros, Am.rowAt, Am.part, addOff, Nat.reduceAdd, Nat.reduceMul, Nat.reduceLeDiff, Nat.reduceSub, Nat.reduceLT, Int.reduceEq, Int.reduceLT, Int.reduceLE, Int.reduceGT, Int.reduceGE, Int.reduceAdd, Int.reduceSub, Int.reduceMul, Int.reduceNeg, Int.reduceToNat, reduceCtorEq, reduceIte, lenV_sl H.p, lenV_sl H.b, elem_sp H.p, elem_bt H.b, view_sl H.p, view_sl H.b, scalar_sl H.p, scalar_sl H.b, cells_sl H.p, cells_sl H.b, pure_sl H.p, pure_sl H.b, Int.toNat_natCast, lenV_sl XX, elem_in XX, view_sl XX, scalar_sl XX, cells_sl XX, pure_sl XX, Int.toNat_natCast, g1, hv]
theorem s32 (H : SeaOk s p b) (st : Bool) : Iso E 32 [seaV s p b] st = some (cheR s) := by
  have g1 := s81 H
  refine Iso_of (es _ _ _ _) e32 ?_
  simp only [f32, seaV, cc3, cheR] at g1 ⊢
  cases hv : s.valid
  · simp only [hv, Bool.false_eq_true, if_false] at g1
    simp (disch := first | assumption | omega | (simp only [az]; done)) only [ru, eq_self, if_true, if_false, BEq.rfl, binI, AO.row?, splice, fillL, mmAll, loadV, storeV, zeros, Am.rowAt, Am.part, addOff, Nat.reduceAdd, Nat.reduceMul, Nat.reduceLeDiff, Nat.reduceSub, Nat.reduceLT, Int.reduceEq, Int.reduceLT, Int.reduceLE, Int.reduceGT, Int.reduceGE, Int.reduceAdd, Int.reduceSub, Int.reduceMul, Int.reduceNeg, Int.reduceToNat, reduceCtorEq, reduceIte, lenV_sl H.p, lenV_sl H.b, elem_sp H.p, elem_bt H.b, view_sl H.p, view_sl H.b, scalar_sl H.p, scalar_sl H.b, cells_sl H.p, cells_sl H.b, pure_sl H.p, pure_sl H.b, Int.toNat_natCast, g1, hv, Bool.false_eq_true]
  cases hc : crew s with
  | none =>
    simp only [hv, hc, if_true] at g1
    simp (disch := first | assumption | omega | (simp only [az]; done)) only [ru, eq_self, if_true, if_false, BEq.rfl, binI, AO.row?, splice, fillL, mmAll, loadV, storeV, zeros, Am.rowAt, Am.part, addOff, Nat.reduceAdd, Nat.reduceMul, Nat.reduceLeDiff, Nat.reduceSub, Nat.reduceLT, Int.reduceEq, Int.reduceLT, Int.reduceLE, Int.reduceGT, Int.reduceGE, Int.reduceAdd, Int.reduceSub, Int.reduceMul, Int.reduceNeg, Int.reduceToNat, reduceCtorEq, reduceIte, lenV_sl H.p, lenV_sl H.b, elem_sp H.p, elem_bt H.b, view_sl H.p, view_sl H.b, scalar_sl H.p, scalar_sl H.b, cells_sl H.p, cells_sl H.b, pure_sl H.p, pure_sl H.b, Int.toNat_natCast, g1, hv]
  | some l =>
    simp only [hv, hc, if_true] at g1
    have XX := resL_is l
    simp (disch := first | assumption | omega | (simp only [az]; done)) only [ru, eq_self, if_true, if_false, BEq.rfl, binI, AO.row?, splice, fillL, mmAll, loadV, storeV, zeros, Am.rowAt, Am.part, addOff, Nat.reduceAdd, Nat.reduceMul, Nat.reduceLeDiff, Nat.reduceSub, Nat.reduceLT, Int.reduceEq, Int.reduceLT, Int.reduceLE, Int.reduceGT, Int.reduceGE, Int.reduceAdd, Int.reduceSub, Int.reduceMul, Int.reduceNeg, Int.reduceToNat, reduceCtorEq, reduceIte, lenV_sl H.p, lenV_sl H.b, elem_sp H.p, elem_bt H.b, view_sl H.p, view_sl H.b, scalar_sl H.p, scalar_sl H.b, cells_sl H.p, cells_sl H.b, pure_sl H.p, pure_sl H.b, Int.toNat_natCast, lenV_sl XX, elem_in XX, view_sl XX, scalar_sl XX, cells_sl XX, pure_sl XX, Int.toNat_natCast, g1, hv]

theorem s104 (H : SeaOk s p b) (K : SeaG s) (st : Bool) : Iso E 104 [seaV s p b] st = some (I (most s)) := by
  have g2 := fun st => s100 H K.sp.le K.nb st
  have g3 := fun st => s98 H K.sp st
  have hle := crws_le K
  have hmem : ∀ l ∈ crws s, isCr s l := fun l hl => mem_crws.1 hl
  refine Iso_of (es _ _ _ _) e104 ?_
  have ec : most s = mst (lft s) (crws s) := rfl
  simp only [f104, seaV, ec] at g2 g3 ⊢
  obtain ⟨L, hL⟩ : ∃ L, L = crws s := ⟨_, rfl⟩
  rw [← hL] at hle hmem ⊢
  simp only [← hL] at g2
  have LL := resLL_is L
  obtain ⟨lv, hlv⟩ : ∃ lv, lv = resLL L := ⟨_, rfl⟩
  rw [← hlv] at LL
  simp only [← hlv] at g2
  obtain ⟨nv, hnv⟩ : ∃ nv, nv = resL (shs s) := ⟨_, rfl⟩
  have NV := resL_is (shs s)
  rw [← hnv] at NV
  simp only [← hnv] at g3
  simp (disch := first | assumption | omega | (simp only [az]; done)) only [ru, eq_self, if_true, if_false, BEq.rfl, binI, AO.row?, splice, fillL, mmAll, loadV, storeV, zeros, Am.rowAt, Am.part, addOff, Nat.reduceAdd, Nat.reduceMul, Nat.reduceLeDiff, Nat.reduceSub, Nat.reduceLT, Int.reduceEq, Int.reduceLT, Int.reduceLE, Int.reduceGT, Int.reduceGE, Int.reduceAdd, Int.reduceSub, Int.reduceMul, Int.reduceNeg, Int.reduceToNat, reduceCtorEq, reduceIte, lenV_sl H.p, lenV_sl H.b, elem_sp H.p, elem_bt H.b, view_sl H.p, view_sl H.b, scalar_sl H.p, scalar_sl H.b, cells_sl H.p, cells_sl H.b, pure_sl H.p, pure_sl H.b, Int.toNat_natCast, g2, g3, view_nils]
  refine G_loop_ind (fun m ts h mk => ∃ k : Nat, k ≤ L.length ∧ m = L.length - k ∧ ts.length = 27 ∧ ts.getD 1 .undef = .ptr 0 0 ∧ ts.getD 3 .undef = I (mst (lft s) (L.take k)) ∧ ts.getD 4 .undef = lv ∧ ts.getD 5 .undef = nv ∧ ts.getD 6 .undef = I k ∧ h = [.cells [I s.w.lo, I s.w.hi, p, b] false] ∧ mk = []) ?_ _ _ _ _
    ⟨0, Nat.zero_le _, rfl, rfl, rfl, rfl, rfl, rfl, rfl, rfl, rfl⟩
  rintro m ts h mk ih ⟨k, hk, rfl, hl', q1, q3, q4, q5, q6, rfl, rfl⟩
  rw [lit_all hl']
  simp only [lit0, litS, Nat.reduceAdd, q1, q3, q4, q5, q6]
  simp (disch := first | assumption | omega | (simp only [az]; done)) only [ru, eq_self, if_true, if_false, BEq.rfl, binI, AO.row?, splice, fillL, mmAll, loadV, storeV, zeros, Am.rowAt, Am.part, addOff, Nat.reduceAdd, Nat.reduceMul, Nat.reduceLeDiff, Nat.reduceSub, Nat.reduceLT, Int.reduceEq, Int.reduceLT, Int.reduceLE, Int.reduceGT, Int.reduceGE, Int.reduceAdd, Int.reduceSub, Int.reduceMul, Int.reduceNeg, Int.reduceToNat, reduceCtorEq, reduceIte, lenV_sl LL]
  by_cases hlt : (k : Int) < L.length
  case pos =>
    have hk' : k < L.length := by omega
    have hcr := hmem _ (getD_memL hk')
    have hcr' := fun i (hi : i < (L.getD k []).length) => isCr_at hcr hi
    obtain ⟨F, hF⟩ : ∃ F, F = L.getD k [] := ⟨_, rfl⟩
    rw [← hF] at hcr
    simp only [← hF] at hcr'
    have FF := resL_is F
    have g97 := fun st => s97 H K FF (by rw [hcr.1]; omega) hcr' NV st
    have et : mmx true (mst (lft s) (L.take k)) (lft s F) = mst (lft s) (L.take (k + 1)) := by rw [take_snoc (d := []) hk', ← hF, mst_snoc]; rfl
    simp only [seaV] at g97
    simp (disch := first | assumption | omega | (simp only [az]; done)) only [ru, eq_self, if_true, if_false, BEq.rfl, binI, AO.row?, splice, fillL, mmAll, loadV, storeV, zeros, Am.rowAt, Am.part, addOff, Nat.reduceAdd, Nat.reduceMul, Nat.reduceLeDiff, Nat.reduceSub, Nat.reduceLT, Int.reduceEq, Int.reduceLT, Int.reduceLE, Int.reduceGT, Int.reduceGE, Int.reduceAdd, Int.reduceSub, Int.reduceMul, Int.reduceNeg, Int.reduceToNat, reduceCtorEq, reduceIte, lenV_sl H.p, lenV_sl H.b, elem_sp H.p, elem_bt H.b, view_sl H.p, view_sl H.b, scalar_sl H.p, scalar_sl H.b, cells_sl H.p, cells_sl H.b, pure_sl H.p, pure_sl H.b, Int.toNat_natCast, lenV_sl NV, elem_in NV, view_sl NV, scalar_sl NV, cells_sl NV, pure_sl NV, Int.toNat_natCast, hlt, elem_ll LL, Int.toNat_natCast, ← hF, view_sl FF, g97, et]
    exact ih (L.length - (k + 1)) _ _ _ (by omega) ⟨k + 1, by omega, rfl, rfl, rfl, rfl, rfl, rfl, rfl, rfl, rfl⟩
  obtain rfl : k = L.length := by omega
  simp (disch := first | assumption | omega | (simp only [az]; done)) only [ru, eq_self, if_true, if_false, BEq.rfl, binI, AO.row?, splice, fillL, mmAll, loadV, storeV, zeros, Am.rowAt, Am.part, addOff, Nat.reduceAdd, Nat.reduceMul, Nat.reduceLeDiff, Nat.reduceSub, Nat.reduceLT, Int.reduceEq, Int.reduceLT, Int.reduceLE, Int.reduceGT, Int.reduceGE, Int.reduceAdd, Int.reduceSub, Int.reduceMul, Int.reduceNeg, Int.reduceToNat, reduceCtorEq, reduceIte, hlt, List.take_length]
theorem s68 (H : SeaOk s p b) (st : Bool) : Iso E 68 [seaV s p b] st = some (mosR s) := by
  have g1 := fun st => s103 H st
  refine Iso_of (es _ _ _ _) e68 ?_
  simp only [f68, seaV, mosR] at g1 ⊢
  cases hv : s.valid
  · simp (disch := first | assumption | omega | (simp only [az]; done)) only [ru, eq_self, if_true, if_false, BEq.rfl, binI, AO.row?, splice, fillL, mmAll, loadV, storeV, zeros, Am.rowAt, Am.part, addOff, Nat.reduceAdd, Nat.reduceMul, Nat.reduceLeDiff, Nat.reduceSub, Nat.reduceLT, Int.reduceEq, Int.reduceLT, Int.reduceLE, Int.reduceGT, Int.reduceGE, Int.reduceAdd, Int.reduceSub, Int.reduceMul, Int.reduceNeg, Int.reduceToNat, reduceCtorEq, reduceIte, lenV_sl H.p, lenV_sl H.b, elem_sp H.p, elem_bt H.b, view_sl H.p, view_sl H.b, scalar_sl H.p, scalar_sl H.b, cells_sl H.p, cells_sl H.b, pure_sl H.p, pure_sl H.b, Int.toNat_natCast, g1, hv, aE, Bool.false_eq_true]
  have g2 := fun st => s104 H (valid_good hv).1 st
  simp only [seaV] at g2
  by_cases hc : s.pl.length ≤ s.bo.length
  · simp (disch := first | assumption | omega | (simp only [az]; done)) only [ru, eq_self, if_true, if_false, BEq.rfl, binI, AO.row?, splice, fillL, mmAll, loadV, storeV, zeros, Am.rowAt, Am.part, addOff, Nat.reduceAdd, Nat.reduceMul, Nat.reduceLeDiff, Nat.reduceSub, Nat.reduceLT, Int.reduceEq, Int.reduceLT, Int.reduceLE, Int.reduceGT, Int.reduceGE, Int.reduceAdd, Int.reduceSub, Int.reduceMul, Int.reduceNeg, Int.reduceToNat, reduceCtorEq, reduceIte, lenV_sl H.p, lenV_sl H.b, elem_sp H.p, elem_bt H.b, view_sl H.p, view_sl H.b, scalar_sl H.p, scalar_sl H.b, cells_sl H.p, cells_sl H.b, pure_sl H.p, pure_sl H.b, Int.toNat_natCast, g1, g2, hv, aE, hc, decide_true]
  · simp (disch := first | assumption | omega | (simp only [az]; done)) only [ru, eq_self, if_true, if_false, BEq.rfl, binI, AO.row?, splice, fillL, mmAll, loadV, storeV, zeros, Am.rowAt, Am.part, addOff, Nat.reduceAdd, Nat.reduceMul, Nat.reduceLeDiff, Nat.reduceSub, Nat.reduceLT, Int.reduceEq, Int.reduceLT, Int.reduceLE, Int.reduceGT, Int.reduceGE, Int.reduceAdd, Int.reduceSub, Int.reduceMul, Int.reduceNeg, Int.reduceToNat, reduceCtorEq, reduceIte, lenV_sl H.p, lenV_sl H.b, elem_sp H.p, elem_bt H.b, view_sl H.p, view_sl H.b, scalar_sl H.p, scalar_sl H.b, cells_sl H.p, cells_sl H.b, pure_sl H.p, pure_sl H.b, Int.toNat_natCast, g1, hv, aE, hc, decide_false, Bool.false_eq_true]
theorem s67 (H : SeaOk s p b) (st : Bool) : Iso E 67 [seaV s p b] st = some (mosR s) := by
  have g1 := fun st => s85 H st
  refine Iso_of (es _ _ _ _) e67 ?_
  simp only [f67, seaV, mosR] at g1 ⊢
  cases hv : s.valid
  · simp (disch := first | assumption | omega | (simp only [az]; done)) only [ru, eq_self, if_true, if_false, BEq.rfl, binI, AO.row?, splice, fillL, mmAll, loadV, storeV, zeros, Am.rowAt, Am.part, addOff, Nat.reduceAdd, Nat.reduceMul, Nat.reduceLeDiff, Nat.reduceSub, Nat.reduceLT, Int.reduceEq, Int.reduceLT, Int.reduceLE, Int.reduceGT, Int.reduceGE, Int.reduceAdd, Int.reduceSub, Int.reduceMul, Int.reduceNeg, Int.reduceToNat, reduceCtorEq, reduceIte, lenV_sl H.p, lenV_sl H.b, elem_sp H.p, elem_bt H.b, view_sl H.p, view_sl H.b, scalar_sl H.p, scalar_sl H.b, cells_sl H.p, cells_sl H.b, pure_sl H.p, pure_sl H.b, Int.toNat_natCast, g1, hv, aE, Bool.false_eq_true]
  have g2 := fun st => s102 H (valid_good hv).1 st
  simp only [seaV] at g2
  by_cases hc : s.pl.length ≤ s.bo.length
  · simp (disch := first | assumption | omega | (simp only [az]; done)) only [ru, eq_self, if_true, if_false, BEq.rfl, binI, AO.row?, splice, fillL, mmAll, loadV, storeV, zeros, Am.rowAt, Am.part, addOff, Nat.reduceAdd, Nat.reduceMul, Nat.reduceLeDiff, Nat.reduceSub, Nat.reduceLT, Int.reduceEq, Int.reduceLT, Int.reduceLE, Int.reduceGT, Int.reduceGE, Int.reduceAdd, Int.reduceSub, Int.reduceMul, Int.reduceNeg, Int.reduceToNat, reduceCtorEq, reduceIte, lenV_sl H.p, lenV_sl H.b, elem_sp H.p, elem_bt H.b, view_sl H.p, view_sl H.b, scalar_sl H.p, scalar_sl H.b, cells_sl H.p, cells_sl H.b, pure_sl H.p, pure_sl H.b, Int.toNat_natCast, g1, g2, hv, aE, hc, decide_true]
  · simp (disch := first | assumption | omega | (simp only [az]; done)) only [ru, eq_self, if_true, if_false, BEq.rfl, binI, AO.row?, splice, fillL, mmAll, loadV, storeV, zeros, Am.rowAt, Am.part, addOff, Nat.reduceAdd, Nat.reduceMul, Nat.reduceLeDiff, Nat.reduceSub, Nat.reduceLT, Int.reduceEq, Int.reduceLT, Int.reduceLE, Int.reduceGT, Int.reduceGE, Int.reduceAdd, Int.reduceSub, Int.reduceMul, Int.reduceNeg, Int.reduceToNat, reduceCtorEq, reduceIte, lenV_sl H.p, lenV_sl H.b, elem_sp H.p, elem_bt H.b, view_sl H.p, view_sl H.b, scalar_sl H.p, scalar_sl H.b, cells_sl H.p, cells_sl H.b, pure_sl H.p, pure_sl H.b, Int.toNat_natCast, g1, hv, aE, hc, decide_false, Bool.false_eq_true]
end
end Go.Proofs.Ytdmhbefdidmliaa.S

/-
Who is short: the program, and how many boats can carry so much.
-/
namespace Go.Proofs.Ytdmhbefdidmliaa.S
open Go Go.Am Go.Proofs.Ytdmhbefdidmliaa.T
set_option maxRecDepth 100000
set_option linter.unusedSimpArgs false
set_option linter.unusedVariables false

def cntN (s : Sea) (x : Int) (j : Nat) : Nat := ((s.bo.take j).filter fun b => decide (x ≤ b.c)).length
theorem cntN_succ {s : Sea} {x : Int} {j : Nat} (h : j < s.bo.length) : cntN s x (j + 1) = cntN s x j + if x ≤ (s.bo.getD j default).c then 1 else 0 := by
  unfold cntN
  rw [take_snoc (d := default) h, List.filter_append, List.length_append]
  simp only [List.filter_cons, List.filter_nil]
  split
  · rename_i hh; rw [if_pos (by simpa using hh)]; rfl
  · rename_i hh; rw [if_neg (by simpa using hh)]; rfl
theorem cntN_all {s : Sea} {x : Int} : cntN s x s.bo.length = canN s x := by unfold cntN canN; rw [List.take_length]
theorem cntN_le {s : Sea} {x : Int} {j : Nat} : cntN s x j ≤ j := by
  have := List.length_filter_le (fun b : Bt => decide (x ≤ b.c)) (s.bo.take j)
  rw [List.length_take] at this
  unfold cntN; omega
section
variable {s : Sea} {p b : AV}

theorem s111 (H : SeaOk s p b) (K : SeaG s) {i : Nat} (hi : i < s.pl.length) (st : Bool) : Iso E 111 [seaV s p b, I i] st = some (I (abs s i)) := by
  have g := fun st => s91 H K hi st
  rw [abs_can]
  have nb := K.nb
  refine Iso_of (es _ _ _ _) e111 ?_
  simp only [f111, seaV] at g ⊢
  obtain ⟨x, hx⟩ : ∃ x, x = needv s i := ⟨_, rfl⟩
  simp only [← hx] at g ⊢
  simp (disch := first | assumption | omega | (simp only [az]; done)) only [ru, eq_self, if_true, if_false, BEq.rfl, binI, AO.row?, splice, fillL, mmAll, loadV, storeV, zeros, Am.rowAt, Am.part, addOff, Nat.reduceAdd, Nat.reduceMul, Nat.reduceLeDiff, Nat.reduceSub, Nat.reduceLT, Int.reduceEq, Int.reduceLT, Int.reduceLE, Int.reduceGT, Int.reduceGE, Int.reduceAdd, Int.reduceSub, Int.reduceMul, Int.reduceNeg, Int.reduceToNat, reduceCtorEq, reduceIte, lenV_sl H.p, lenV_sl H.b, elem_sp H.p, elem_bt H.b, view_sl H.p, view_sl H.b, scalar_sl H.p, scalar_sl H.b, cells_sl H.p, cells_sl H.b, pure_sl H.p, pure_sl H.b, Int.toNat_natCast]
  refine G_loop_ind (fun m ts h mk => ∃ (j : Nat) (J : List AO), j ≤ s.bo.length ∧ m = s.bo.length - j ∧ ts.length = 26 ∧ ts.getD 1 .undef = I i ∧ ts.getD 2 .undef = .ptr 0 0 ∧ ts.getD 5 .undef = I (cntN s x j) ∧ ts.getD 10 .undef = b ∧ ts.getD 11 .undef = I s.bo.length ∧ ts.getD 12 .undef = I j ∧ h = .cells [I s.w.lo, I s.w.hi, p, b] false :: J ∧ mk = []) ?_ _ _ _ _
    ⟨0, [], Nat.zero_le _, rfl, rfl, rfl, rfl, rfl, rfl, rfl, rfl, rfl, rfl⟩
  rintro m ts h mk ih ⟨j, J, hj, rfl, hl', q1, q2, q5, q10, q11, q12, rfl, rfl⟩
  rw [lit_all hl']
  simp only [lit0, litS, Nat.reduceAdd, q1, q2, q5, q10, q11, q12]
  simp (disch := first | assumption | omega | (simp only [az]; done)) only [ru, eq_self, if_true, if_false, BEq.rfl, binI, AO.row?, splice, fillL, mmAll, loadV, storeV, zeros, Am.rowAt, Am.part, addOff, Nat.reduceAdd, Nat.reduceMul, Nat.reduceLeDiff, Nat.reduceSub, Nat.reduceLT, Int.reduceEq, Int.reduceLT, Int.reduceLE, Int.reduceGT, Int.reduceGE, Int.reduceAdd, Int.reduceSub, Int.reduceMul, Int.reduceNeg, Int.reduceToNat, reduceCtorEq, reduceIte]
  by_cases hlt : (j : Int) < s.bo.length
  case pos =>
    have hj' : j < s.bo.length := by omega
    have ec := cntN_succ (x := x) hj'
    have cl := cntN_le (s := s) (x := x) (j := j)
    obtain ⟨y, hy⟩ : ∃ y, y = s.bo.getD j default := ⟨_, rfl⟩
    rw [← hy] at ec
    obtain ⟨G, hG⟩ : ∃ G : List AO, G = .cells [I s.w.lo, I s.w.hi, p, b] false :: J := ⟨_, rfl⟩
    have g0 : G[0]? = some (.cells [I s.w.lo, I s.w.hi, p, b] false) := by rw [hG]; rfl
    have gn : 0 < G.length := by rw [hG]; simp
    rw [← hG]
    by_cases hc : x ≤ y.c
    · rw [if_pos hc] at ec
      simp (disch := first | assumption | omega | (simp only [az]; done)) only [ru, eq_self, if_true, if_false, BEq.rfl, binI, AO.row?, splice, fillL, mmAll, loadV, storeV, zeros, Am.rowAt, Am.part, addOff, Nat.reduceAdd, Nat.reduceMul, Nat.reduceLeDiff, Nat.reduceSub, Nat.reduceLT, Int.reduceEq, Int.reduceLT, Int.reduceLE, Int.reduceGT, Int.reduceGE, Int.reduceAdd, Int.reduceSub, Int.reduceMul, Int.reduceNeg, Int.reduceToNat, reduceCtorEq, reduceIte, lenV_sl H.p, lenV_sl H.b, elem_sp H.p, elem_bt H.b, view_sl H.p, view_sl H.b, scalar_sl H.p, scalar_sl H.b, cells_sl H.p, cells_sl H.b, pure_sl H.p, pure_sl H.b, Int.toNat_natCast, hlt, elem_bt H.b, Int.toNat_natCast, ← hy, atE, setE, g0, gn, at_ap, g, hc, ge_iff_le, decide_true]
      exact ih (s.bo.length - (j + 1)) _ _ _ (by omega) ⟨j + 1, J ++ [.cells [I y.c, I y.p] false], by omega, rfl, rfl, rfl, rfl, by rw [ec]; rfl, rfl, rfl, rfl, by rw [hG]; rfl, rfl⟩
    · rw [if_neg hc] at ec
      simp (disch := first | assumption | omega | (simp only [az]; done)) only [ru, eq_self, if_true, if_false, BEq.rfl, binI, AO.row?, splice, fillL, mmAll, loadV, storeV, zeros, Am.rowAt, Am.part, addOff, Nat.reduceAdd, Nat.reduceMul, Nat.reduceLeDiff, Nat.reduceSub, Nat.reduceLT, Int.reduceEq, Int.reduceLT, Int.reduceLE, Int.reduceGT, Int.reduceGE, Int.reduceAdd, Int.reduceSub, Int.reduceMul, Int.reduceNeg, Int.reduceToNat, reduceCtorEq, reduceIte, lenV_sl H.p, lenV_sl H.b, elem_sp H.p, elem_bt H.b, view_sl H.p, view_sl H.b, scalar_sl H.p, scalar_sl H.b, cells_sl H.p, cells_sl H.b, pure_sl H.p, pure_sl H.b, Int.toNat_natCast, hlt, elem_bt H.b, Int.toNat_natCast, ← hy, atE, setE, g0, gn, at_ap, g, hc, ge_iff_le, decide_false]
      exact ih (s.bo.length - (j + 1)) _ _ _ (by omega) ⟨j + 1, J ++ [.cells [I y.c, I y.p] false], by omega, rfl, rfl, rfl, rfl, by rw [ec]; rfl, rfl, rfl, rfl, by rw [hG]; rfl, rfl⟩
  obtain rfl : j = s.bo.length := by omega
  simp (disch := first | assumption | omega | (simp only [az]; done)) only [ru, eq_self, if_true, if_false, BEq.rfl, binI, AO.row?, splice, fillL, mmAll, loadV, storeV, zeros, Am.rowAt, Am.part, addOff, Nat.reduceAdd, Nat.reduceMul, Nat.reduceLeDiff, Nat.reduceSub, Nat.reduceLT, Int.reduceEq, Int.reduceLT, Int.reduceLE, Int.reduceGT, Int.reduceGE, Int.reduceAdd, Int.reduceSub, Int.reduceMul, Int.reduceNeg, Int.reduceToNat, reduceCtorEq, reduceIte, hlt, cntN_all]
theorem s45 (H : SeaOk s p b) (x : Int) (st : Bool) : Iso E 45 [seaV s p b, I x] st = some (I (canN s x)) := by
  have nb := H.sb
  refine Iso_of (es _ _ _ _) e45 ?_
  simp only [f45, seaV]
  simp (disch := first | assumption | omega | (simp only [az]; done)) only [ru, eq_self, if_true, if_false, BEq.rfl, binI, AO.row?, splice, fillL, mmAll, loadV, storeV, zeros, Am.rowAt, Am.part, addOff, Nat.reduceAdd, Nat.reduceMul, Nat.reduceLeDiff, Nat.reduceSub, Nat.reduceLT, Int.reduceEq, Int.reduceLT, Int.reduceLE, Int.reduceGT, Int.reduceGE, Int.reduceAdd, Int.reduceSub, Int.reduceMul, Int.reduceNeg, Int.reduceToNat, reduceCtorEq, reduceIte]
  refine G_loop_ind (fun m ts h mk => ∃ (j : Nat), j ≤ s.bo.length ∧ m = s.bo.length - j ∧ ts.length = 25 ∧ ts.getD 1 .undef = I x ∧ ts.getD 2 .undef = .ptr 0 0 ∧ ts.getD 5 .undef = I (cntN s x j) ∧ ts.getD 6 .undef = I j ∧ h = [.cells [I s.w.lo, I s.w.hi, p, b] false] ∧ mk = []) ?_ _ _ _ _
    ⟨0, Nat.zero_le _, rfl, rfl, rfl, rfl, rfl, rfl, rfl, rfl⟩
  rintro m ts h mk ih ⟨j, hj, rfl, hl', q1, q2, q5, q6, rfl, rfl⟩
  rw [lit_all hl']
  simp only [lit0, litS, Nat.reduceAdd, q1, q2, q5, q6]
  simp (disch := first | assumption | omega | (simp only [az]; done)) only [ru, eq_self, if_true, if_false, BEq.rfl, binI, AO.row?, splice, fillL, mmAll, loadV, storeV, zeros, Am.rowAt, Am.part, addOff, Nat.reduceAdd, Nat.reduceMul, Nat.reduceLeDiff, Nat.reduceSub, Nat.reduceLT, Int.reduceEq, Int.reduceLT, Int.reduceLE, Int.reduceGT, Int.reduceGE, Int.reduceAdd, Int.reduceSub, Int.reduceMul, Int.reduceNeg, Int.reduceToNat, reduceCtorEq, reduceIte, lenV_sl H.p, lenV_sl H.b, elem_sp H.p, elem_bt H.b, view_sl H.p, view_sl H.b, scalar_sl H.p, scalar_sl H.b, cells_sl H.p, cells_sl H.b, pure_sl H.p, pure_sl H.b, Int.toNat_natCast]
  by_cases hlt : (j : Int) < s.bo.length
  case pos =>
    have hj' : j < s.bo.length := by omega
    have ec := cntN_succ (x := x) hj'
    have cl := cntN_le (s := s) (x := x) (j := j)
    obtain ⟨y, hy⟩ : ∃ y, y = s.bo.getD j default := ⟨_, rfl⟩
    rw [← hy] at ec
    by_cases hc : x ≤ y.c
    · rw [if_pos hc] at ec
      simp (disch := first | assumption | omega | (simp only [az]; done)) only [ru, eq_self, if_true, if_false, BEq.rfl, binI, AO.row?, splice, fillL, mmAll, loadV, storeV, zeros, Am.rowAt, Am.part, addOff, Nat.reduceAdd, Nat.reduceMul, Nat.reduceLeDiff, Nat.reduceSub, Nat.reduceLT, Int.reduceEq, Int.reduceLT, Int.reduceLE, Int.reduceGT, Int.reduceGE, Int.reduceAdd, Int.reduceSub, Int.reduceMul, Int.reduceNeg, Int.reduceToNat, reduceCtorEq, reduceIte, lenV_sl H.p, lenV_sl H.b, elem_sp H.p, elem_bt H.b, view_sl H.p, view_sl H.b, scalar_sl H.p, scalar_sl H.b, cells_sl H.p, cells_sl H.b, pure_sl H.p, pure_sl H.b, Int.toNat_natCast, hlt, ← hy, hc, ge_iff_le, decide_true]
      exact ih (s.bo.length - (j + 1)) _ _ _ (by omega) ⟨j + 1, by omega, rfl, rfl, rfl, rfl, by rw [ec]; rfl, rfl, rfl, rfl⟩
    · rw [if_neg hc] at ec
      simp (disch := first | assumption | omega | (simp only [az]; done)) only [ru, eq_self, if_true, if_false, BEq.rfl, binI, AO.row?, splice, fillL, mmAll, loadV, storeV, zeros, Am.rowAt, Am.part, addOff, Nat.reduceAdd, Nat.reduceMul, Nat.reduceLeDiff, Nat.reduceSub, Nat.reduceLT, Int.reduceEq, Int.reduceLT, Int.reduceLE, Int.reduceGT, Int.reduceGE, Int.reduceAdd, Int.reduceSub, Int.reduceMul, Int.reduceNeg, Int.reduceToNat, reduceCtorEq, reduceIte, lenV_sl H.p, lenV_sl H.b, elem_sp H.p, elem_bt H.b, view_sl H.p, view_sl H.b, scalar_sl H.p, scalar_sl H.b, cells_sl H.p, cells_sl H.b, pure_sl H.p, pure_sl H.b, Int.toNat_natCast, hlt, ← hy, hc, ge_iff_le, decide_false]
      exact ih (s.bo.length - (j + 1)) _ _ _ (by omega) ⟨j + 1, by omega, rfl, rfl, rfl, rfl, by rw [ec]; rfl, rfl, rfl, rfl⟩
  obtain rfl : j = s.bo.length := by omega
  simp (disch := first | assumption | omega | (simp only [az]; done)) only [ru, eq_self, if_true, if_false, BEq.rfl, binI, AO.row?, splice, fillL, mmAll, loadV, storeV, zeros, Am.rowAt, Am.part, addOff, Nat.reduceAdd, Nat.reduceMul, Nat.reduceLeDiff, Nat.reduceSub, Nat.reduceLT, Int.reduceEq, Int.reduceLT, Int.reduceLE, Int.reduceGT, Int.reduceGE, Int.reduceAdd, Int.reduceSub, Int.reduceMul, Int.reduceNeg, Int.reduceToNat, reduceCtorEq, reduceIte, hlt, cntN_all]
theorem s46 {L : List Int} {u v : AV} (U : IsSl 1 intL (nds s) u) (V : IsSl 1 intL L v) (h0 : 0 < L.length) (hl : L.length ≤ 1000) (hb : ∀ i, i < L.length → 0 ≤ L.getD i 0 ∧ L.getD i 0 < s.pl.length) (st : Bool) : Iso E 46 [u, v] st = some (I (lea s L)) := by
  have ul : (nds s).length = s.pl.length := rmap_len
  have h0' : (0 : Int) < L.length := by omega
  have at' : ∀ i, i < L.length → (L.getD i 0) < ((nds s).length : Int) ∧ (nds s).getD (L.getD i 0).toNat 0 = needv s (L.getD i 0).toNat := fun i hi => by
    have := hb i hi
    exact ⟨by omega, rmap_at (by omega)⟩
  have a0 := at' 0 h0
  have b0 := hb 0 h0
  refine Iso_of (es _ _ _ _) e46 ?_
  simp only [f46]
  have el : leaU s L 0 = needv s (L.getD 0 0).toNat := rfl
  obtain ⟨x, hx⟩ : ∃ x, x = L.getD 0 0 := ⟨_, rfl⟩
  rw [← hx] at a0 b0 el
  obtain ⟨a1, a2⟩ := a0
  simp (disch := first | assumption | omega | (simp only [az]; done)) only [ru, eq_self, if_true, if_false, BEq.rfl, binI, AO.row?, splice, fillL, mmAll, loadV, storeV, zeros, Am.rowAt, Am.part, addOff, Nat.reduceAdd, Nat.reduceMul, Nat.reduceLeDiff, Nat.reduceSub, Nat.reduceLT, Int.reduceEq, Int.reduceLT, Int.reduceLE, Int.reduceGT, Int.reduceGE, Int.reduceAdd, Int.reduceSub, Int.reduceMul, Int.reduceNeg, Int.reduceToNat, reduceCtorEq, reduceIte, lenV_sl U, elem_in U, view_sl U, scalar_sl U, cells_sl U, pure_sl U, Int.toNat_natCast, lenV_sl V, elem_in V, view_sl V, scalar_sl V, cells_sl V, pure_sl V, Int.toNat_natCast, h0', Int.toNat_zero, ← hx, b0.1, a1, a2]
  rw [← el]
  refine G_loop_ind (fun m ts h mk => ∃ (j : Nat), j ≤ L.length ∧ m = L.length - j ∧ ts.length = 29 ∧ ts.getD 0 .undef = u ∧ ts.getD 1 .undef = v ∧ ts.getD 5 .undef = I (leaU s L j) ∧ ts.getD 6 .undef = I j ∧ h = [] ∧ mk = []) ?_ _ _ _ _
    ⟨0, Nat.zero_le _, rfl, rfl, rfl, rfl, rfl, rfl, rfl, rfl⟩
  clear hx a1 a2 b0 el x
  rintro m ts h mk ih ⟨j, hj, rfl, hl', q0, q1, q5, q6, rfl, rfl⟩
  rw [lit_all hl']
  simp only [lit0, litS, Nat.reduceAdd, q0, q1, q5, q6]
  simp (disch := first | assumption | omega | (simp only [az]; done)) only [ru, eq_self, if_true, if_false, BEq.rfl, binI, AO.row?, splice, fillL, mmAll, loadV, storeV, zeros, Am.rowAt, Am.part, addOff, Nat.reduceAdd, Nat.reduceMul, Nat.reduceLeDiff, Nat.reduceSub, Nat.reduceLT, Int.reduceEq, Int.reduceLT, Int.reduceLE, Int.reduceGT, Int.reduceGE, Int.reduceAdd, Int.reduceSub, Int.reduceMul, Int.reduceNeg, Int.reduceToNat, reduceCtorEq, reduceIte, lenV_sl V, elem_in V, view_sl V, scalar_sl V, cells_sl V, pure_sl V, Int.toNat_natCast]
  by_cases hlt : (j : Int) < L.length
  case pos =>
    have hj' : j < L.length := by omega
    obtain ⟨a1, a2⟩ := at' j hj'
    obtain ⟨b1, b2⟩ := hb j hj'
    have eu : leaU s L (j + 1) = mmx false (leaU s L j) (needv s (L.getD j 0).toNat) := rfl
    obtain ⟨x, hx⟩ : ∃ x, x = L.getD j 0 := ⟨_, rfl⟩
    rw [← hx] at a1 a2 b1 eu
    simp (disch := first | assumption | omega | (simp only [az]; done)) only [ru, eq_self, if_true, if_false, BEq.rfl, binI, AO.row?, splice, fillL, mmAll, loadV, storeV, zeros, Am.rowAt, Am.part, addOff, Nat.reduceAdd, Nat.reduceMul, Nat.reduceLeDiff, Nat.reduceSub, Nat.reduceLT, Int.reduceEq, Int.reduceLT, Int.reduceLE, Int.reduceGT, Int.reduceGE, Int.reduceAdd, Int.reduceSub, Int.reduceMul, Int.reduceNeg, Int.reduceToNat, reduceCtorEq, reduceIte, lenV_sl U, elem_in U, view_sl U, scalar_sl U, cells_sl U, pure_sl U, Int.toNat_natCast, lenV_sl V, elem_in V, view_sl V, scalar_sl V, cells_sl V, pure_sl V, Int.toNat_natCast, hlt, ← hx, b1, a1, a2]
    exact ih (L.length - (j + 1)) _ _ _ (by omega) ⟨j + 1, by omega, rfl, rfl, rfl, rfl, by rw [eu]; rfl, rfl, rfl, rfl⟩
  obtain rfl : j = L.length := by omega
  simp (disch := first | assumption | omega | (simp only [az]; done)) only [ru, eq_self, if_true, if_false, BEq.rfl, binI, AO.row?, splice, fillL, mmAll, loadV, storeV, zeros, Am.rowAt, Am.part, addOff, Nat.reduceAdd, Nat.reduceMul, Nat.reduceLeDiff, Nat.reduceSub, Nat.reduceLT, Int.reduceEq, Int.reduceLT, Int.reduceLE, Int.reduceGT, Int.reduceGE, Int.reduceAdd, Int.reduceSub, Int.reduceMul, Int.reduceNeg, Int.reduceToNat, reduceCtorEq, reduceIte, hlt]

/-- the program's places that are short -/
def fewU (s : Sea) (f i : Nat) : List Int := ofN ((List.range i).filter fun p => decide (abs s p < f))
theorem fewU_succ {s : Sea} {f i : Nat} : fewU s f (i + 1) = fewU s f i ++ if abs s i < f then [(i : Int)] else [] := by
  unfold fewU ofN
  rw [List.range_succ, List.filter_append, List.map_append]
  congr 1
  by_cases h : abs s i < f
  · simp [h]
  · simp [h]
theorem fewU_len {s : Sea} {f i : Nat} : (fewU s f i).length ≤ i := by
  have := List.length_filter_le (fun p => decide (abs s p < f)) (List.range i)
  rw [List.length_range] at this
  unfold fewU ofN; rw [List.length_map]; exact this
def shoR (s : Sea) : AV := if s.valid then (match sht s with | none => .tup [.nils, I 3] | some l => .tup [resL (ofN l), I 0]) else .tup [.nils, I 50]
theorem slice_ms {l : List Int} {o f : Nat} (hf : 1 ≤ f) (hl : f ≤ l.length) : sliceV 1 (.ms 1 o 0 l.length) none (some (I f)) = some (.ms 1 o 0 f) := by
  have h1 : (0 : Int) ≤ f ∧ (f : Int) ≤ l.length := by omega
  have h2 : 0 < f := hf
  simp only [sliceV, sliceB, h1, and_self, if_true, Int.toNat_natCast, Nat.zero_mul, Nat.add_zero, Nat.sub_zero, h2, true_or]
theorem view_take {l : List Int} {o f : Nat} {h : List AO} (hf : 1 ≤ f) (hl : f ≤ l.length) {sh : Bool} (hc : h[o]? = some (.cells (l.flatMap intL) sh)) {st : Bool} {k : Nat} : view st h (k + 1) (.ms 1 o 0 f) = some (resL (l.take f)) := by
  have e1 : (l.flatMap intL).take f = (l.take f).flatMap intL := by
    clear hc
    induction l generalizing f with
    | nil => simp at hl; omega
    | cons a l ih =>
      match f, hf with
      | f + 1, _ =>
        by_cases h0 : f = 0
        · subst h0; rfl
        · simp only [List.flatMap_cons, List.cons_append, List.nil_append, List.take_succ_cons, ih (f := f) (by omega) (by simpa using hl)]
  have e2 : ((l.take f).flatMap intL).length = f := by rw [flat_len intE, List.length_take]; omega
  have hne : l.take f ≠ [] := by
    intro e; have := congrArg List.length e; rw [List.length_take, List.length_nil] at this; omega
  simp only [view_ms, rowOf_ms, Am.rowAt, hc, Option.bind_some, AO.row?, List.drop_zero, Nat.mul_one, e1, e2, if_true, flat_view intIv, Option.map_some, resL, hne, if_false, slV, List.length_take, Nat.min_eq_left hl]

set_option maxHeartbeats 2000000 in
theorem s82 (H : SeaOk s p b) (K : SeaG s) : Iso E 82 [seaV s p b] false = some (match sht s with | none => .nils | some l => resL (ofN l)) := by
  have hle := K.sp.le
  have hun : ∀ {d f : Nat}, shtU s (d + 1) f = if f ≤ (fews s f).length then some ((fews s f).take f) else shtU s d (f + 1) := rfl
  refine Iso_of (es _ _ _ _) e82 ?_
  simp only [f82, seaV]
  simp (disch := first | assumption | omega | (simp only [az]; done)) only [ru, eq_self, if_true, if_false, BEq.rfl, binI, AO.row?, splice, fillL, mmAll, loadV, storeV, zeros, Am.rowAt, Am.part, addOff, Nat.reduceAdd, Nat.reduceMul, Nat.reduceLeDiff, Nat.reduceSub, Nat.reduceLT, Int.reduceEq, Int.reduceLT, Int.reduceLE, Int.reduceGT, Int.reduceGE, Int.reduceAdd, Int.reduceSub, Int.reduceMul, Int.reduceNeg, Int.reduceToNat, reduceCtorEq, reduceIte]
  refine G_loop_ind (fun m ts h mk => ∃ (f : Nat) (J : List AO), 1 ≤ f ∧ f ≤ s.pl.length + 1 ∧ m = s.pl.length + 1 - f ∧ sht s = shtU s (s.pl.length + 1 - f) f ∧ ts.length = 38 ∧ ts.getD 1 .undef = .ptr 0 0 ∧ ts.getD 3 .undef = I f ∧ h = .cells [I s.w.lo, I s.w.hi, p, b] false :: J ∧ mk = []) ?_ _ _ _ _
    ⟨1, [], Nat.le_refl _, by omega, rfl, rfl, rfl, rfl, rfl, rfl, rfl⟩
  rintro m ts h mk ihf ⟨f, J, hf1, hf, rfl, es, hl', q1, q3, rfl, rfl⟩
  rw [lit_all hl']
  simp only [lit0, litS, Nat.reduceAdd, q1, q3]
  simp (disch := first | assumption | omega | (simp only [az]; done)) only [ru, eq_self, if_true, if_false, BEq.rfl, binI, AO.row?, splice, fillL, mmAll, loadV, storeV, zeros, Am.rowAt, Am.part, addOff, Nat.reduceAdd, Nat.reduceMul, Nat.reduceLeDiff, Nat.reduceSub, Nat.reduceLT, Int.reduceEq, Int.reduceLT, Int.reduceLE, Int.reduceGT, Int.reduceGE, Int.reduceAdd, Int.reduceSub, Int.reduceMul, Int.reduceNeg, Int.reduceToNat, reduceCtorEq, reduceIte, lenV_sl H.p, lenV_sl H.b, elem_sp H.p, elem_bt H.b, view_sl H.p, view_sl H.b, scalar_sl H.p, scalar_sl H.b, cells_sl H.p, cells_sl H.b, pure_sl H.p, pure_sl H.b, Int.toNat_natCast]
  by_cases hlt : (f : Int) ≤ s.pl.length
  case neg =>
    have e0 : s.pl.length + 1 - f = 0 := by omega
    rw [e0] at es
    rw [es]
    simp (disch := first | assumption | omega | (simp only [az]; done)) only [ru, eq_self, if_true, if_false, BEq.rfl, binI, AO.row?, splice, fillL, mmAll, loadV, storeV, zeros, Am.rowAt, Am.part, addOff, Nat.reduceAdd, Nat.reduceMul, Nat.reduceLeDiff, Nat.reduceSub, Nat.reduceLT, Int.reduceEq, Int.reduceLT, Int.reduceLE, Int.reduceGT, Int.reduceGE, Int.reduceAdd, Int.reduceSub, Int.reduceMul, Int.reduceNeg, Int.reduceToNat, reduceCtorEq, reduceIte, hlt, shtU]
  simp (disch := first | assumption | omega | (simp only [az]; done)) only [ru, eq_self, if_true, if_false, BEq.rfl, binI, AO.row?, splice, fillL, mmAll, loadV, storeV, zeros, Am.rowAt, Am.part, addOff, Nat.reduceAdd, Nat.reduceMul, Nat.reduceLeDiff, Nat.reduceSub, Nat.reduceLT, Int.reduceEq, Int.reduceLT, Int.reduceLE, Int.reduceGT, Int.reduceGE, Int.reduceAdd, Int.reduceSub, Int.reduceMul, Int.reduceNeg, Int.reduceToNat, reduceCtorEq, reduceIte, hlt, lenV_sl H.p, lenV_sl H.b, elem_sp H.p, elem_bt H.b, view_sl H.p, view_sl H.b, scalar_sl H.p, scalar_sl H.b, cells_sl H.p, cells_sl H.b, pure_sl H.p, pure_sl H.b, Int.toNat_natCast]
  clear hl' q1 q3
  refine G_loop_ind (fun m ts h mk => ∃ (i : Nat) (J : List AO) (o : AV), i ≤ s.pl.length ∧ m = s.pl.length - i ∧ OutE intL 1 1 (.cells [I s.w.lo, I s.w.hi, p, b] false :: J) o (fewU s f i) ∧ ts.length = 38 ∧ ts.getD 1 .undef = .ptr 0 0 ∧ ts.getD 3 .undef = I f ∧ ts.getD 4 .undef = o ∧ ts.getD 17 .undef = I s.pl.length ∧ ts.getD 18 .undef = I i ∧ h = .cells [I s.w.lo, I s.w.hi, p, b] false :: J ∧ mk = []) ?_ _ _ _ _
    ⟨0, J, .nils, Nat.zero_le _, rfl, .inl ⟨rfl, rfl⟩, rfl, rfl, rfl, rfl, rfl, rfl, rfl, rfl⟩
  clear J
  rintro m ts h mk ihi ⟨i, J, o, hi, rfl, ho, hl', q1, q3, q4, q17, q18, rfl, rfl⟩
  rw [lit_all hl']
  simp only [lit0, litS, Nat.reduceAdd, q1, q3, q4, q17, q18]
  simp (disch := first | assumption | omega | (simp only [az]; done)) only [ru, eq_self, if_true, if_false, BEq.rfl, binI, AO.row?, splice, fillL, mmAll, loadV, storeV, zeros, Am.rowAt, Am.part, addOff, Nat.reduceAdd, Nat.reduceMul, Nat.reduceLeDiff, Nat.reduceSub, Nat.reduceLT, Int.reduceEq, Int.reduceLT, Int.reduceLE, Int.reduceGT, Int.reduceGE, Int.reduceAdd, Int.reduceSub, Int.reduceMul, Int.reduceNeg, Int.reduceToNat, reduceCtorEq, reduceIte]
  by_cases hlt2 : (i : Int) < s.pl.length
  case pos =>
    have hi' : i < s.pl.length := by omega
    have g := fun st => s111 H K hi' st
    simp only [seaV] at g
    by_cases hc : abs s i < f
    · have hc' : (abs s i : Int) < f := by omega
      have hfl := fewU_len (s := s) (f := f) (i := i)
      obtain ⟨v', J', ha, ho'⟩ := outE_app (pre := [(.cells [I s.w.lo, I s.w.hi, p, b] false : AO)]) (J := J) (eb := 8) (lim := 0) intE intSc (by omega) (by omega) (by omega) ho (Nat.zero_le _) (by omega) (i : Int)
      simp only [apC, apN, lenS, len0, Nat.zero_add] at ha ho'
      simp (disch := first | assumption | omega | (simp only [az]; done)) only [ru, eq_self, if_true, if_false, BEq.rfl, binI, AO.row?, splice, fillL, mmAll, loadV, storeV, zeros, Am.rowAt, Am.part, addOff, Nat.reduceAdd, Nat.reduceMul, Nat.reduceLeDiff, Nat.reduceSub, Nat.reduceLT, Int.reduceEq, Int.reduceLT, Int.reduceLE, Int.reduceGT, Int.reduceGE, Int.reduceAdd, Int.reduceSub, Int.reduceMul, Int.reduceNeg, Int.reduceToNat, reduceCtorEq, reduceIte, lenV_sl H.p, lenV_sl H.b, elem_sp H.p, elem_bt H.b, view_sl H.p, view_sl H.b, scalar_sl H.p, scalar_sl H.b, cells_sl H.p, cells_sl H.b, pure_sl H.p, pure_sl H.b, Int.toNat_natCast, hlt2, g, hc', decide_true, exOp_litS, AV.pureV.go, AV.pureV, Bool.and_true, ha]
      exact ihi (s.pl.length - (i + 1)) _ _ _ (by omega) ⟨i + 1, J', v', by omega, rfl, by rw [fewU_succ, if_pos hc]; exact ho', rfl, rfl, rfl, rfl, rfl, rfl, rfl, rfl⟩
    · have hc' : ¬ (abs s i : Int) < f := by omega
      simp (disch := first | assumption | omega | (simp only [az]; done)) only [ru, eq_self, if_true, if_false, BEq.rfl, binI, AO.row?, splice, fillL, mmAll, loadV, storeV, zeros, Am.rowAt, Am.part, addOff, Nat.reduceAdd, Nat.reduceMul, Nat.reduceLeDiff, Nat.reduceSub, Nat.reduceLT, Int.reduceEq, Int.reduceLT, Int.reduceLE, Int.reduceGT, Int.reduceGE, Int.reduceAdd, Int.reduceSub, Int.reduceMul, Int.reduceNeg, Int.reduceToNat, reduceCtorEq, reduceIte, lenV_sl H.p, lenV_sl H.b, elem_sp H.p, elem_bt H.b, view_sl H.p, view_sl H.b, scalar_sl H.p, scalar_sl H.b, cells_sl H.p, cells_sl H.b, pure_sl H.p, pure_sl H.b, Int.toNat_natCast, hlt2, g, hc', decide_false]
      exact ihi (s.pl.length - (i + 1)) _ _ _ (by omega) ⟨i + 1, J, o, by omega, rfl, by rw [fewU_succ, if_neg hc, List.append_nil]; exact ho, rfl, rfl, rfl, rfl, rfl, rfl, rfl, rfl⟩
  obtain rfl : i = s.pl.length := by omega
  have ef : fewU s f s.pl.length = ofN (fews s f) := rfl
  have ol : (ofN (fews s f)).length = (fews s f).length := ofN_len
  rw [ef] at ho
  have lo := ho.lenL
  have ed : s.pl.length + 1 - f = (s.pl.length - f) + 1 := by omega
  rw [ed, hun] at es
  by_cases hc : f ≤ (fews s f).length
  · have hc' : ((ofN (fews s f)).length : Int) ≥ f := by omega
    rw [if_pos hc] at es
    rw [es]
    rcases ho with ⟨e, _⟩ | ⟨hne, oo, hoo, rfl, hcell⟩
    · exfalso; rw [e] at ol; simp at ol; omega
    have sv := slice_ms (l := ofN (fews s f)) (o := oo) hf1 (by omega)
    have vt := fun st => view_take (l := ofN (fews s f)) hf1 (by omega) hcell (st := st) (k := 7)
    rw [← ofN_take] at vt
    simp (disch := first | assumption | omega | (simp only [az]; done)) only [ru, eq_self, if_true, if_false, BEq.rfl, binI, AO.row?, splice, fillL, mmAll, loadV, storeV, zeros, Am.rowAt, Am.part, addOff, Nat.reduceAdd, Nat.reduceMul, Nat.reduceLeDiff, Nat.reduceSub, Nat.reduceLT, Int.reduceEq, Int.reduceLT, Int.reduceLE, Int.reduceGT, Int.reduceGE, Int.reduceAdd, Int.reduceSub, Int.reduceMul, Int.reduceNeg, Int.reduceToNat, reduceCtorEq, reduceIte, hlt2, lo, hc', decide_true, sv]
    exact vt false
  · have hc' : ¬ ((ofN (fews s f)).length : Int) ≥ f := by omega
    rw [if_neg hc] at es
    simp (disch := first | assumption | omega | (simp only [az]; done)) only [ru, eq_self, if_true, if_false, BEq.rfl, binI, AO.row?, splice, fillL, mmAll, loadV, storeV, zeros, Am.rowAt, Am.part, addOff, Nat.reduceAdd, Nat.reduceMul, Nat.reduceLeDiff, Nat.reduceSub, Nat.reduceLT, Int.reduceEq, Int.reduceLT, Int.reduceLE, Int.reduceGT, Int.reduceGE, Int.reduceAdd, Int.reduceSub, Int.reduceMul, Int.reduceNeg, Int.reduceToNat, reduceCtorEq, reduceIte, hlt2, lo, hc', decide_false]
    refine ihf (s.pl.length + 1 - (f + 1)) _ _ _ (by omega) ⟨f + 1, J, by omega, by omega, rfl, ?_, rfl, rfl, rfl, rfl, rfl⟩
    rw [es]; congr 1; omega
theorem s34 (H : SeaOk s p b) : Iso E 34 [seaV s p b] false = some (shoR s) := by
  have g1 := fun st => s52 H st
  refine Iso_of (es _ _ _ _) e34 ?_
  simp only [f34, seaV, shoR] at g1 ⊢
  cases hv : s.valid
  · simp (disch := first | assumption | omega | (simp only [az]; done)) only [ru, eq_self, if_true, if_false, BEq.rfl, binI, AO.row?, splice, fillL, mmAll, loadV, storeV, zeros, Am.rowAt, Am.part, addOff, Nat.reduceAdd, Nat.reduceMul, Nat.reduceLeDiff, Nat.reduceSub, Nat.reduceLT, Int.reduceEq, Int.reduceLT, Int.reduceLE, Int.reduceGT, Int.reduceGE, Int.reduceAdd, Int.reduceSub, Int.reduceMul, Int.reduceNeg, Int.reduceToNat, reduceCtorEq, reduceIte, lenV_sl H.p, lenV_sl H.b, elem_sp H.p, elem_bt H.b, view_sl H.p, view_sl H.b, scalar_sl H.p, scalar_sl H.b, cells_sl H.p, cells_sl H.b, pure_sl H.p, pure_sl H.b, Int.toNat_natCast, g1, hv, vE, Bool.false_eq_true]
  have K := (valid_good hv).1
  have g2 := s82 H K
  simp only [seaV] at g2
  cases hc : sht s with
  | none =>
    rw [hc] at g2
    simp (disch := first | assumption | omega | (simp only [az]; done)) only [ru, eq_self, if_true, if_false, BEq.rfl, binI, AO.row?, splice, fillL, mmAll, loadV, storeV, zeros, Am.rowAt, Am.part, addOff, Nat.reduceAdd, Nat.reduceMul, Nat.reduceLeDiff, Nat.reduceSub, Nat.reduceLT, Int.reduceEq, Int.reduceLT, Int.reduceLE, Int.reduceGT, Int.reduceGE, Int.reduceAdd, Int.reduceSub, Int.reduceMul, Int.reduceNeg, Int.reduceToNat, reduceCtorEq, reduceIte, lenV_sl H.p, lenV_sl H.b, elem_sp H.p, elem_bt H.b, view_sl H.p, view_sl H.b, scalar_sl H.p, scalar_sl H.b, cells_sl H.p, cells_sl H.b, pure_sl H.p, pure_sl H.b, Int.toNat_natCast, g1, g2, hv, vE, pex_isNil]
  | some l =>
    rw [hc] at g2
    obtain ⟨g, h1, h2, h3, rfl, h5⟩ := shtU_some hc
    have XX := resL_is (ofN ((fews s g).take g))
    have vw := fun h n => view_sl XX h n
    match hl : ofN ((fews s g).take g), (show ofN ((fews s g).take g) ≠ [] by intro e; have := congrArg List.length e; rw [ofN_len, List.length_take, List.length_nil] at this; omega) with
    | a :: t, _ =>
      simp only [hl] at g2 vw ⊢
      simp only [resL_cons] at g2 vw ⊢
      simp (disch := first | assumption | omega | (simp only [az]; done)) only [ru, eq_self, if_true, if_false, BEq.rfl, binI, AO.row?, splice, fillL, mmAll, loadV, storeV, zeros, Am.rowAt, Am.part, addOff, Nat.reduceAdd, Nat.reduceMul, Nat.reduceLeDiff, Nat.reduceSub, Nat.reduceLT, Int.reduceEq, Int.reduceLT, Int.reduceLE, Int.reduceGT, Int.reduceGE, Int.reduceAdd, Int.reduceSub, Int.reduceMul, Int.reduceNeg, Int.reduceToNat, reduceCtorEq, reduceIte, lenV_sl H.p, lenV_sl H.b, elem_sp H.p, elem_bt H.b, view_sl H.p, view_sl H.b, scalar_sl H.p, scalar_sl H.b, cells_sl H.p, cells_sl H.b, pure_sl H.p, pure_sl H.b, Int.toNat_natCast, g1, g2, hv, vE, pex_isNil, vw]
end
end Go.Proofs.Ytdmhbefdidmliaa.S

