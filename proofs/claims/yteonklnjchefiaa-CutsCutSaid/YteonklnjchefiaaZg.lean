/-
The specification: Fix; the law CutsFix.
-/
import Derived.Test.YteonklnjchefiaaZf
namespace Go.Proofs.Yteonklnjchefiaa.S
open Go Go.Am Go.Proofs.Yteonklnjchefiaa.T
set_option maxRecDepth 100000
set_option linter.unusedSimpArgs false
set_option linter.unusedVariables false

section
variable {t : List Pt} {v : AV}
/-- costs of changes whose first weights are a list's -/
def fI (t : List Pt) (L : List Int) (k b : Nat) : Int := if k < L.length ∧ L.getD k 0 ≠ (b : Int) then NV else aI t k b
theorem fI_app {L : List Int} {c : Int} {k b : Nat} (h : k ≠ L.length) : fI t (L ++ [c]) k b = fI t L k b := by
  unfold fI
  by_cases e : k < L.length
  · have : (L ++ [c]).getD k 0 = L.getD k 0 := by rw [List.getD_eq_getElem?_getD, List.getElem?_append_left e, ← List.getD_eq_getElem?_getD]
    rw [this, List.length_append, List.length_singleton]
    by_cases e2 : L.getD k 0 ≠ (b : Int)
    · rw [if_pos ⟨by omega, e2⟩, if_pos ⟨e, e2⟩]
    · rw [if_neg (fun h => e2 h.2), if_neg (fun h => e2 h.2)]
  · rw [if_neg (fun hh => by have := hh.1; rw [List.length_append, List.length_singleton] at this; omega), if_neg (fun h => e h.1)]
theorem fI_last {L : List Int} {n b : Nat} : fI t (L ++ [(n : Int)]) L.length b = if b = n then aI t L.length n else NV := by
  unfold fI
  have : (L ++ [(n : Int)]).getD L.length 0 = n := by rw [List.getD_eq_getElem?_getD, List.getElem?_append_right (Nat.le_refl _), Nat.sub_self]; rfl
  rw [this, List.length_append, List.length_singleton]
  by_cases e : b = n
  · subst e; rw [if_neg (fun h => h.2 rfl), if_pos rfl]
  · rw [if_pos ⟨by omega, fun h => e (by omega)⟩, if_neg e]
/-- a table in which a row is of another object -/
theorem TabN.fresh {h : List AO} {n o : Nat} {q : Nat → Nat} {f : Nat → Nat → Int} (T : TabN 0 h.length h n o q f) {i : Nat} (hi : i < n) (g : Nat → Int) (Z : AO) :
    TabN 0 (h.length + 1) (((h ++ [Z]).set o (.cells (ptrs n fun j => if j = i then h.length else q j) false)).set h.length (.cells (rw_ 31 g) false)) n o (fun j => if j = i then h.length else q j) (fun k => if k = i then g else f k) := by
  have ob := T.ob
  refine ⟨by omega, ?_, fun k hk => ?_, fun a b ha hb e => ?_⟩
  · rw [List.getElem?_set_ne (by omega), List.getElem?_set_self (by simp; omega)]
  · by_cases e : k = i
    · subst e
      simp only [if_true]
      exact ⟨by omega, by omega, by rw [List.getElem?_set_self (by simp)]⟩
    · simp only [if_neg e]
      have tk := T.rows k hk
      exact ⟨by omega, tk.2.1, by rw [List.getElem?_set_ne (by omega), List.getElem?_set_ne (fun h => tk.2.1 h.symm), at_ap tk.1.2]; exact tk.2.2⟩
  · by_cases e1 : a = i
    · by_cases e2 : b = i
      · omega
      · simp only [if_pos e1, if_neg e2] at e
        have := (T.rows b hb).1; omega
    · by_cases e2 : b = i
      · simp only [if_neg e1, if_pos e2] at e
        have := (T.rows a ha).1; omega
      · simp only [if_neg e1, if_neg e2] at e
        exact T.inj a b ha hb e
/-- the list that is made, apart from a table -/
def OutF (h : List AO) (x : AV) (L : List Int) (n o : Nat) (q : Nat → Nat) : Prop := (L = [] ∧ x = .nils) ∨ (L ≠ [] ∧ ∃ p sh, x = .ms 1 p 0 L.length ∧ h[p]? = some (.cells (L.flatMap intL) sh) ∧ p ≠ o ∧ ∀ k, k < n → p ≠ q k)
theorem OutF.view {h : List AO} {x : AV} {L : List Int} {n o : Nat} {q : Nat → Nat} (O : OutF h x L n o q) (st : Bool) (k : Nat) : Am.view st h (k + 1) x = some (resL L) := by
  have rd : RdS h x L := by
    rcases O with h1 | ⟨h1, p, sh, h2, h3, _⟩
    · exact .inl h1
    · exact .inr ⟨h1, p, sh, h2, h3⟩
  exact rd.view
theorem OutF.app {h : List AO} {x : AV} {L : List Int} {n o : Nat} {q : Nat → Nat} {f : Nat → Nat → Int} (O : OutF h x L n o q) (T : TabN 0 h.length h n o q f) (hl : L.length ≤ 100) (c : Int) :
    ∃ x' h', appV 0 h 1 8 x (.cs 1 1 [I c]) = some (x', h') ∧ OutF h' x' (L ++ [c]) n o q ∧ TabN 0 h'.length h' n o q f := by
  have ob := T.ob
  rcases O with ⟨rfl, rfl⟩ | ⟨h1, p, sh, rfl, h3, h4, h5⟩
  · refine ⟨.ms 1 h.length 0 1, h ++ [.cells [I c] false], (appV_nil (n := 1) (xs := [I c]) rfl rfl rfl rfl (by omega) (by omega)).trans (if_neg (by omega)), .inr ⟨by simp, h.length, false, rfl, by rw [atE]; rfl, by omega, fun k hk => by have := (T.rows k hk).1; omega⟩, ?_⟩
    exact (T.fr (h' := h ++ [AO.cells [I c] false]) fun j j1 j2 => at_ap j2).up (Nat.le_refl _) (by simp)
  · have pl := (List.getElem?_eq_some_iff.1 h3).1
    have hlen : (h.set p AO.tomb ++ [AO.cells (L.flatMap intL ++ [I c]) sh]).length = h.length + 1 := by simp
    have fr : ∀ j, j < h.length → j ≠ p → (h.set p AO.tomb ++ [AO.cells (L.flatMap intL ++ [I c]) sh])[j]? = h[j]? := fun j hj hp => by
      rw [at_ap (by simp; exact hj), List.getElem?_set_ne (fun e => hp e.symm)]
    refine ⟨_, _, by rw [appV_ms (n := 1) (xs := [I c]) h3 (by rw [flat_len intE]) rfl rfl rfl rfl (by omega) (by omega) (Nat.zero_le _), if_neg (by omega)], .inr ⟨by simp, h.length, sh, by simp, ?_, by omega, fun k hk => by have := (T.rows k hk).1; omega⟩, ?_⟩
    · have e : h.length = (h.set p AO.tomb).length := by simp
      rw [e, atE, List.flatMap_append]; rfl
    · refine ⟨by rw [hlen]; omega, by rw [fr o ob.2 (fun e => h4 e.symm)]; exact T.oc, fun k hk => ?_, T.inj⟩
      have tk := T.rows k hk
      exact ⟨by rw [hlen]; omega, tk.2.1, by rw [fr _ tk.1.2 (fun e => h5 k hk e.symm)]; exact tk.2.2⟩
/-- the state when the weight of a part is looked for -/
structure Fx (t : List Pt) (L : List Int) (i : Nat) (x : AV) (h : List AO) (o ow : Nat) (q : Nat → Nat) (f : Nat → Nat → Int) : Prop where
  T : TabN 0 h.length h t.length o q f
  O : OutF h x L t.length o q
  w : h[ow]? = some (.cells (rw_ 31 (aI t i)) false)
  wo : ow ≠ o
  f : ∀ k, k < t.length → k ≠ i → ∀ y, y < 31 → f k y = fI t L k y
/-- the row of a part is made anew, with one weight -/
theorem Fx.step {L : List Int} {i : Nat} {x : AV} {h : List AO} {o ow : Nat} {q : Nat → Nat} {f : Nat → Nat → Int} (F : Fx t L i x h o ow q f) (hi : i < t.length) (hL : L.length = i) {n : Nat} (hn : n < 31) (Z : AO) :
    ∃ q' f', q' = (fun j => if j = i then h.length else q j) ∧ Fx t L i x (((h ++ [Z]).set o (.cells (ptrs t.length q') false)).set h.length (.cells (rw_ 31 fun y => if y = n then aI t i n else NV) false)) o ow q' f' ∧ ∀ k, k < t.length → ∀ y, y < 31 → f' k y = fI t (L ++ [(n : Int)]) k y := by
  have ob := F.T.ob
  have wl := (List.getElem?_eq_some_iff.1 F.w).1
  have hle : (((h ++ [Z]).set o (.cells (ptrs t.length fun j => if j = i then h.length else q j) false)).set h.length (.cells (rw_ 31 fun y => if y = n then aI t i n else NV) false)).length = h.length + 1 := by simp
  refine ⟨_, _, rfl, ⟨by rw [hle]; exact F.T.fresh hi _ Z, ?_, ?_, F.wo, fun k hk hne y hy => ?_⟩, fun k hk y hy => ?_⟩
  · rcases F.O with h1 | ⟨h1, p, sh, h2, h3, h4, h5⟩
    · exact .inl h1
    · have pl := (List.getElem?_eq_some_iff.1 h3).1
      refine .inr ⟨h1, p, sh, h2, by rw [List.getElem?_set_ne (by omega), List.getElem?_set_ne (fun e => h4 e.symm), at_ap pl]; exact h3, h4, fun k hk => ?_⟩
      by_cases e : k = i
      · simp only [if_pos e]; omega
      · simp only [if_neg e]; exact h5 k hk
  · rw [List.getElem?_set_ne (by omega), List.getElem?_set_ne (fun e => F.wo e.symm), at_ap wl]; exact F.w
  · simp only [if_neg hne]; exact F.f k hk hne y hy
  · by_cases e : k = i
    · subst e
      simp only [if_true]
      rw [← hL, fI_last]
    · simp only [if_neg e]
      rw [fI_app (by omega)]
      exact F.f k hk e y hy
end
end Go.Proofs.Yteonklnjchefiaa.S

