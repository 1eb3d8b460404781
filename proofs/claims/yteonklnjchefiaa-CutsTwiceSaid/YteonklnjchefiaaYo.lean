/-
CutsTwice: dear and cheap (mathematics).
-/
import Derived.Test.YteonklnjchefiaaYl
import Derived.Test.YteonklnjchefiaaYu
namespace Go.Proofs.Yteonklnjchefiaa.S
open Go Go.Am Go.Proofs.Yteonklnjchefiaa.T
set_option maxRecDepth 100000
set_option linter.unusedSimpArgs false
set_option linter.unusedVariables false

theorem bst_R {R : List Int → List Int → Bool} (asy : ∀ {x y}, R x y = true → R y x = false) {f : List Int → Bool} {cost : List Int → Int} {l : List (List Int)} : l.Pairwise (fun x y => R x y = true) → ∀ {x : List Int}, bst f cost l = some x → (x ∈ l ∧ f x = true ∧ ∀ c ∈ l, f c = true → cost x ≤ cost c ∧ (cost c = cost x → R c x = false)) := by
  refine snocRec (fun l => l.Pairwise (fun x y => R x y = true) → ∀ {x : List Int}, bst f cost l = some x → (x ∈ l ∧ f x = true ∧ ∀ c ∈ l, f c = true → cost x ≤ cost c ∧ (cost c = cost x → R c x = false))) l (by intro _ x h; cases h) ?_
  intro l c ih hp x h
  rw [List.pairwise_append] at hp
  obtain ⟨hp, _, hc⟩ := hp
  rw [bst_snoc] at h
  unfold bstS at h
  split at h
  · rename_i hf
    split at h
    · rename_i e
      cases h
      refine ⟨by simp, hf, fun y hy hfy => ?_⟩
      rcases List.mem_append.1 hy with hy | hy
      · rw [bst_none.1 e y hy] at hfy; cases hfy
      · rw [List.mem_singleton] at hy; subst hy
        refine ⟨Int.le_refl _, fun _ => ?_⟩
        cases hh : R y y with
        | false => rfl
        | true => have := asy hh; rw [hh] at this; cases this
    · rename_i z e
      split at h
      · rename_i hlt
        cases h
        obtain ⟨h1, h2, h3⟩ := ih hp e
        refine ⟨by simp, hf, fun y hy hfy => ?_⟩
        rcases List.mem_append.1 hy with hy | hy
        · have := (h3 y hy hfy).1
          exact ⟨by omega, fun e => by omega⟩
        · rw [List.mem_singleton] at hy; subst hy
          refine ⟨Int.le_refl _, fun _ => ?_⟩
          cases hh : R y y with
          | false => rfl
          | true => have := asy hh; rw [hh] at this; cases this
      · rename_i hlt
        obtain ⟨h1, h2, h3⟩ := ih hp h
        rw [e] at h
        cases h
        refine ⟨by simp [h1], h2, fun y hy hfy => ?_⟩
        rcases List.mem_append.1 hy with hy | hy
        · exact h3 y hy hfy
        · rw [List.mem_singleton] at hy; subst hy
          exact ⟨by omega, fun _ => asy (hc _ h1 _ (by simp))⟩
  · rename_i hf
    obtain ⟨h1, h2, h3⟩ := ih hp h
    refine ⟨by simp [h1], h2, fun y hy hfy => ?_⟩
    rcases List.mem_append.1 hy with hy | hy
    · exact h3 y hy hfy
    · rw [List.mem_singleton] at hy; subst hy; exact absurd hfy hf
theorem bef_asym {x y : List Int} (h : bef x y = true) : bef y x = false := by
  simp only [bef, Bool.or_eq_true, Bool.and_eq_true, decide_eq_true_eq] at h
  rw [Bool.eq_false_iff]
  intro h2
  simp only [bef, Bool.or_eq_true, Bool.and_eq_true, decide_eq_true_eq] at h2
  rcases h with h | ⟨h, h'⟩ <;> rcases h2 with h2 | ⟨h2, h2'⟩
  · omega
  · omega
  · omega
  · rw [ear_asym h'] at h2'; cases h2'
theorem cut_of {a b : List Pt} (hl : a.length = b.length) (hc : ∀ i, canC a i = canC b i) (h : ∀ j, (a.getD j default).of = (b.getD j default).of) {l : List Int} : cutB a l = cutB b l := by
  have : cutAt a l = cutAt b l := by funext i; simp only [cutAt, hl, hc, thr, h]
  simp only [cutB, this]
theorem bef_tot {x y : List Int} (h1 : bef x y = false) (h2 : bef y x = false) : x = y := by
  simp only [bef, Bool.or_eq_false_iff, decide_eq_false_iff_not] at h1 h2
  have hl : x.length = y.length := by omega
  refine ear_total hl ?_ ?_
  · have := h1.2; rw [decide_eq_true hl, Bool.true_and] at this; exact this
  · have := h2.2; rw [decide_eq_true hl.symm, Bool.true_and] at this; exact this
theorem best_spec2 {t : List Pt} : cutB t (bcut t) = true ∧ ∀ l, cutB t l = true → prc t l ≤ prc t (bcut t) ∧ (prc t l = prc t (bcut t) → bef l (bcut t) = false) := by
  obtain ⟨h1, _, h3⟩ := bst_R (R := bef) bef_asym (l := cutsL t) cuts_sorted (bcut_some (t := t))
  refine ⟨mem_cuts.1 h1, fun l hl => ?_⟩
  obtain ⟨h4, h5⟩ := h3 l (mem_cuts.2 hl) rfl
  exact ⟨by omega, fun e => h5 (by omega)⟩
theorem lin_two {r u : Nat → Int} : ∀ {k : Nat}, lin (fun i => 2 * r i) u k = 2 * lin r u k
  | 0 => rfl
  | k + 1 => by simp only [lin, lin_two (k := k), Int.mul_assoc]; omega
section
variable {t : List Pt} {v w : AV} {l : List Int}
/-- with doubled pence, the first ones -/
def dblU (t : List Pt) : Nat → List Pt
  | 0 => t
  | i + 1 => (dblU t i).set i { (dblU t i).getD i default with p := ((dblU t i).getD i default).p * 2 }
theorem dblU_len : ∀ {i : Nat}, (dblU t i).length = t.length
  | 0 => rfl
  | i + 1 => by simp [dblU, dblU_len (i := i)]
theorem dblU_at : ∀ {i j : Nat}, i ≤ t.length → (dblU t i).getD j default = if j < i then { t.getD j default with p := (t.getD j default).p * 2 } else t.getD j default
  | 0, j, _ => rfl
  | i + 1, j, h => by
    have h1 := dblU_at (i := i) (j := i) (by omega)
    rw [if_neg (by omega)] at h1
    rw [dblU, set_at (by rw [dblU_len]; omega), h1]
    by_cases e : j = i
    · subst e; rw [if_pos rfl, if_pos (by omega)]
    · rw [if_neg e, dblU_at (by omega)]
      by_cases h2 : j < i
      · rw [if_pos h2, if_pos (by omega)]
      · rw [if_neg h2, if_neg (by omega)]
def dbl (t : List Pt) : List Pt := dblU t t.length
theorem dbl_len : (dbl t).length = t.length := dblU_len
theorem dbl_of (j : Nat) : ((dbl t).getD j default).of = (t.getD j default).of ∧ ((dbl t).getD j default).w = (t.getD j default).w ∧ ((dbl t).getD j default).s = (t.getD j default).s := by
  rw [dbl, dblU_at (Nat.le_refl _)]; split <;> exact ⟨rfl, rfl, rfl⟩
theorem dbl_can (i : Int) : canC (dbl t) i = canC t i := by
  have key : ∀ (a b : List Pt), a.length = b.length → (∀ j, (a.getD j default).of = (b.getD j default).of) → canC a i = true → canC b i = true := fun a b hl ha h => by
    simp only [canC, List.any_eq_true, decide_eq_true_eq] at h ⊢
    obtain ⟨x, hx, e⟩ := h
    obtain ⟨j, hj, rfl⟩ := mem_getD (d := default) hx
    exact ⟨b.getD j default, getD_mem (by omega), by rw [← ha j]; exact e⟩
  rw [Bool.eq_iff_iff]
  exact ⟨key _ _ dbl_len fun j => (dbl_of j).1, key _ _ dbl_len.symm fun j => (dbl_of j).1.symm⟩
theorem dbl_tru {u : Nat → Int} : TruF (dbl t) u ↔ TruF t u := tru_same dbl_len dbl_can dbl_of
theorem dbl_cut {l : List Int} : cutB (dbl t) l = cutB t l := cut_of dbl_len dbl_can fun j => (dbl_of j).1
theorem dbl_rS {l : List Int} : rS (dbl t) l = fun i => 2 * rS t l i := by
  funext i
  have tr : thr (dbl t) l i = thr t l i := by simp only [thr, (dbl_of _).1]
  unfold rS
  rw [dbl_len, tr]
  by_cases hc : i < t.length ∧ thr t l i = true ∧ (i : Int) ∉ l
  · rw [if_pos hc, if_pos hc, dbl, dblU_at (Nat.le_refl _), if_pos hc.1]; show _ * 2 = _; omega
  · rw [if_neg hc, if_neg hc]; rfl
theorem dbl_is1 (T : TW t) (T' : TW (dbl t)) : is1 (dbl t) = is1 t := by
  rw [Bool.eq_iff_iff, is1_iff T'.toTG, is1_iff T.toTG]
  exact ⟨fun ⟨u, h⟩ => ⟨u, dbl_tru.1 h⟩, fun ⟨u, h⟩ => ⟨u, dbl_tru.2 h⟩⟩
theorem dbl_lo (T : TW t) (T' : TW (dbl t)) (h1 : is1 t = true) {r : Nat → Int} : loV (dbl t) (fun i => 2 * r i) = 2 * loV t r := by
  obtain ⟨⟨u, hu, e⟩, h⟩ := loV_spec (r := r) T.toTG h1
  refine loV_eq T'.toTG u (dbl_tru.2 hu) (by rw [dbl_len, lin_two, e]) fun w hw => ?_
  have := h w (dbl_tru.1 hw)
  rw [dbl_len, lin_two]; omega
theorem dbl_hi (T : TW t) (T' : TW (dbl t)) (h1 : is1 t = true) {r : Nat → Int} : hiV (dbl t) (fun i => 2 * r i) = 2 * hiV t r := by
  obtain ⟨⟨u, hu, e⟩, h⟩ := hiV_spec (r := r) T.toTG h1
  refine hiV_eq T'.toTG u (dbl_tru.2 hu) (by rw [dbl_len, lin_two, e]) fun w hw => ?_
  have := h w (dbl_tru.1 hw)
  rw [dbl_len, lin_two]; omega
theorem dbl_rnk (T : TW t) (T' : TW (dbl t)) (h1 : is1 t = true) {l m : List Int} : rnk (dbl t) l m = rnk t l m := by
  have e : (fun i => rS (dbl t) l i - rS (dbl t) m i) = fun i => 2 * (rS t l i - rS t m i) := by
    funext i; rw [dbl_rS, dbl_rS]; show 2 * _ - 2 * _ = _; omega
  unfold rnk
  rw [e, dbl_lo T T' h1 (r := fun i => rS t l i - rS t m i), dbl_hi T T' h1 (r := fun i => rS t l i - rS t m i)]
  by_cases a : loV t (fun i => rS t l i - rS t m i) > 0
  · rw [if_pos a, if_pos (by omega)]
  · rw [if_neg a, if_neg (by omega)]
    by_cases b : hiV t (fun i => rS t l i - rS t m i) ≤ 0
    · rw [if_pos b, if_pos (by omega)]
    · rw [if_neg b, if_neg (by omega)]
theorem dbl_prc (T : TW t) (T' : TW (dbl t)) (h1 : is1 t = true) {l : List Int} : prc (dbl t) l = 2 * prc t l := by
  unfold prc; rw [dbl_rS]; exact dbl_lo T T' h1
theorem dbl_bcut (T : TW t) (T' : TW (dbl t)) (h1 : is1 t = true) : bcut (dbl t) = bcut t := by
  obtain ⟨a1, a2⟩ := best_spec2 (t := t)
  obtain ⟨b1, b2⟩ := best_spec2 (t := dbl t)
  have c1 := a2 (bcut (dbl t)) (by rw [← dbl_cut]; exact b1)
  have c2 := b2 (bcut t) (by rw [dbl_cut]; exact a1)
  rw [dbl_prc T T' h1, dbl_prc T T' h1] at c2
  exact bef_tot (c1.2 (by omega)) (c2.2 (by omega))
end
end Go.Proofs.Yteonklnjchefiaa.S

