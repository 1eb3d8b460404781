/-
Crews and the most that they hold; the examples of the chapters 5 and 7: hauled.
-/
import Derived.Test.YtokhneffambgmaaC2
import Derived.Test.YtokhneffambgmaaGa
namespace Go.Proofs.Ytokhneffambgmaa.A
open Go Go.Am Go.Proofs.Ytokhneffambgmaa.T
set_option maxRecDepth 100000
set_option linter.unusedSimpArgs false
set_option linter.unusedVariables false

theorem nodup_len : ∀ {n : Nat} {l : List Int}, (∀ x ∈ l, 0 ≤ x ∧ x < n) → l.Nodup → l.length ≤ n
  | 0, l, h, _ => by
    match l with
    | [] => simp
    | a :: l => have := h a (by simp); omega
  | n + 1, l, h, hn => by
    by_cases hm : (n : Int) ∈ l
    · have h1 := nodup_len (n := n) (l := l.erase (n : Int)) (fun x hx => by
        have h2 := (List.Nodup.mem_erase_iff hn).1 hx
        have := h x h2.2
        have := h2.1
        omega) (hn.erase _)
      rw [List.length_erase_of_mem hm] at h1
      omega
    · have := nodup_len (n := n) (l := l) (fun x hx => by
        have := h x hx
        have : x ≠ n := fun e => hm (e ▸ hx)
        omega) hn
      omega
theorem cr_len {s : Sea} {l : List Int} (h : isCr s l) : s.pl.length ≤ s.bo.length := by
  rw [← h.1]; exact nodup_len h.2.1 h.2.2
theorem cr_ex {s : Sea} (h : s.pl.length ≤ s.bo.length) : ∃ l, isCr s l := by
  have key : ∀ n, n ≤ s.bo.length → ∃ l : List Int, l.length = n ∧ (∀ x ∈ l, x < n) ∧ okC s.bo.length l := by
    intro n
    induction n with
    | zero => intro _; exact ⟨[], rfl, by simp, by simp [okC]⟩
    | succ n ih =>
      intro hn
      obtain ⟨l, h1, h2, h3⟩ := ih (by omega)
      refine ⟨l ++ [(n : Int)], by simp [h1], fun x hx => ?_, okC_snoc.2 ⟨h3, by omega, fun hm => by have := h2 _ hm; omega⟩⟩
      rcases List.mem_append.1 hx with hx | hx
      · have := h2 x hx; omega
      · rw [List.mem_singleton] at hx; subst hx; omega
  obtain ⟨l, h1, _, h3⟩ := key s.pl.length h
  exact ⟨l, h1, h3⟩
theorem crew_most {s : Sea} (K : SeaG s) : (∃ x, crew s = some x) ↔ s.pl.length ≤ s.bo.length ∧ s.w.hi ≤ most s := by
  constructor
  · rintro ⟨x, hx⟩
    obtain ⟨c1, c2, _⟩ := crew_some hx
    rw [fts_lft K c1.1, decide_eq_true_eq] at c2
    exact ⟨cr_len c1, Int.le_trans c2 (mst_ge.2 x (mem_crws.2 c1))⟩
  · rintro ⟨h1, h2⟩
    have ex : ∃ l, isCr s l ∧ s.w.hi ≤ lft s l := by
      rcases mst_at (f := lft s) (l := crws s) with e | ⟨c, hc, e⟩
      · obtain ⟨l, hl⟩ := cr_ex h1
        exact ⟨l, hl, by have := lftU_ge K (l := l) (k := l.length) (by rw [hl.1]; exact Nat.le_refl _); have h2' : s.w.hi ≤ mst (lft s) (crws s) := h2; show s.w.hi ≤ lftU s l l.length; omega⟩
      · exact ⟨c, mem_crws.1 hc, by have h2' : s.w.hi ≤ mst (lft s) (crws s) := h2; omega⟩
    obtain ⟨l, hl, hw⟩ := ex
    cases hx : crew s with
    | some x => exact ⟨x, rfl⟩
    | none =>
      have := crew_none.1 hx l hl
      rw [fts_lft K hl.1] at this
      simp only [decide_eq_false_iff_not] at this
      exact absurd hw this
theorem most_w {s : Sea} {u v : Spn} : most ⟨u, s.pl, s.bo⟩ = most ⟨v, s.pl, s.bo⟩ := by
  have key : ∀ u v : Spn, most ⟨u, s.pl, s.bo⟩ ≤ most ⟨v, s.pl, s.bo⟩ := fun u v => mst_le (f := lft ⟨u, s.pl, s.bo⟩) mst_ge.1 fun c hc => by
    have e : lft ⟨u, s.pl, s.bo⟩ c = lft ⟨v, s.pl, s.bo⟩ c := lft_w
    rw [e]
    exact (mst_ge (f := lft ⟨v, s.pl, s.bo⟩)).2 c hc
  exact Int.le_antisymm (key u v) (key v u)
end Go.Proofs.Ytokhneffambgmaa.A
namespace Go.Proofs.Ytokhneffambgmaa.S
open Go Go.Am Go.Proofs.Ytokhneffambgmaa.T
set_option maxRecDepth 100000
set_option linter.unusedSimpArgs false
set_option linter.unusedVariables false

theorem Iso_run {n f : Nat} {args : List AV} {st : Bool} {v : AV} (h : ((callN E n (.fn f) args [] 0).bind fun y => view st y.2 8 y.1) = some v) : Iso E f args st = some v := by
  cases hc : callN E n (.fn f) args [] 0 with
  | none => rw [hc] at h; cases h
  | some y =>
    rw [hc] at h
    obtain ⟨r, h'⟩ := y
    have := R_run hc
    simp only [Iso, this]
    exact h
def sea0 : AV := .agg [I 100, I 120, .cs 2 3 [I 2, I 6, I 3, I 5, I 4, I 6], .cs 2 4 [I 50, I 4, I 60, I 7, I 45, I 2, I 70, I 9]]
def sea1 : AV := .agg [I 100, I 120, .cs 2 3 [I 2, I 6, I 3, I 5, I 4, I 6], .cs 2 2 [I 50, I 4, I 45, I 2]]
theorem ex5 : Iso E 24 [] false = some (.tup [sea0, sea1]) := Iso_run (n := 60) (by kernel_rfl)
theorem mo5 : Iso E 12 [sea0] false = some (.tup [I 120, I 0]) := Iso_run (n := 100) (by kernel_rfl)
theorem ex_whole : loV exT (rW exT) = 20 ∧ hiV exT (rW exT) = 24 := by
  have e : ∀ u : Nat → Int, lin (rW exT) u exT.length = 0 + 1 * u 0 + 0 * u 1 + 0 * u 2 + 0 * u 3 + 0 * u 4 := fun u => rfl
  constructor
  · refine loV_eq exT_W.toTG _ (tru_list exT_W (l := [20, 8, 9, 6, 0]) (by decide +kernel)) rfl fun w hw => ?_
    have := exT_tru hw; rw [e]; omega
  · refine hiV_eq exT_W.toTG _ (tru_list exT_W (l := [24, 12, 10, 6, 6]) (by decide +kernel)) rfl fun w hw => ?_
    have := exT_tru hw; rw [e]; omega
set_option maxHeartbeats 4000000 in
theorem sHauled (st : Bool) : Iso E 8 [] st = some (Bo true) := by
  have a1 : ∀ st, Iso E 9 [exTv] st = some (.tup [.agg [I 20, I 24], I 0]) := fun st => by
    rw [s20 exT_ok]; simp only [askR, exT_v, if_true, btw, exT_1, ex_whole.1, ex_whole.2]
  have a0 := s65
  have b0 := ex5
  have b1 := mo5
  obtain ⟨tv, ht⟩ : ∃ tv, tv = exTv := ⟨_, rfl⟩
  obtain ⟨uv, hu⟩ : ∃ uv, uv = exUv := ⟨_, rfl⟩
  rw [← ht] at a1 a0
  rw [← hu] at a0
  have HT : TbOk exT tv := by rw [ht]; exact exT_ok
  have HU : IsSl 6 Pt.e exU uv := by rw [hu]; exact slV_is
  simp only [sea0, sea1] at b0 b1
  refine Iso_of (es _ _ _ _) e8 ?_
  simp only [f8]
  simp (disch := first | assumption | omega | (simp only [az]; done)) only [ru, eq_self, if_true, if_false, BEq.rfl, binI, AO.row?, splice, fillL, mmAll, loadV, storeV, zeros, Am.rowAt, Am.part, addOff, Nat.reduceAdd, Nat.reduceMul, Nat.reduceLeDiff, Nat.reduceSub, Nat.reduceLT, Int.reduceEq, Int.reduceLT, Int.reduceLE, Int.reduceGT, Int.reduceGE, Int.reduceAdd, Int.reduceSub, Int.reduceMul, Int.reduceNeg, Int.reduceToNat, reduceCtorEq, reduceIte, lenV_sl HT.i, elem_pt HT.i, view_sl HT.i, scalar_sl HT.i, cells_sl HT.i, pure_sl HT.i, Int.toNat_natCast, lenV_sl HU, view_sl HU, scalar_sl HU, cells_sl HU, pure_sl HU, a0, a1, b0, b1, AV.pureV.go, AV.pureV, Bool.and_true, decide_true, pex_eqS, gUn]
  done
end Go.Proofs.Ytokhneffambgmaa.S
