/-
A wall without load parts a net: what drags on either side of it.
-/
import Derived.Test.YtpflneddfhifkaaHa
namespace Go.Proofs.Ytpflneddfhifkaa.S
open Go Go.Am Go.Proofs.Ytpflneddfhifkaa.T
set_option maxRecDepth 100000
set_option linter.unusedSimpArgs false
set_option linter.unusedVariables false

def flatWal (n : Net) (k : Nat) : Wal := ⟨0, 0, (n.walls.getD k default).lean, (n.walls.getD k default).corks, (n.walls.getD k default).stones⟩
def apart (n : Net) (k : Nat) : Net := { n with walls := n.walls.set k (flatWal n k) }
def leftN (n : Net) (k : Nat) : Net := { n with ancs := n.ancs.take (k + 1), walls := (n.walls.set k (flatWal n k)).take k }
def rightN (n : Net) (k : Nat) : Net := { n with ancs := n.ancs.drop (k + 1), walls := (n.walls.set k (flatWal n k)).drop (k + 1) }

section
variable {n : Net} {k : Nat} {t : Tru}
theorem apart_lw : (apart n k).walls.length = n.walls.length := List.length_set
theorem walOk_flat (hv : n.valid = true) (hk : k < n.walls.length) : walOk (flatWal n k) = true := by
  have b := (netB hv).w _ (getD_mem (l := n.walls) hk)
  simp only [walOk, flatWal, Bool.and_eq_true, inR_iff]
  have := b.c0; have := b.c1; have := b.d0; have := b.d1; have := b.e0; have := b.e1
  omega
theorem apart_walls (hv : n.valid = true) (hk : k < n.walls.length) : ∀ w ∈ (n.walls.set k (flatWal n k)), walOk w = true := by
  intro y hy
  rcases List.mem_or_eq_of_mem_set hy with h | rfl
  · simp only [Net.valid, Bool.and_eq_true] at hv
    exact List.all_eq_true.1 hv.2 y h
  · exact walOk_flat hv hk
theorem apart_valid (hv : n.valid = true) (hk : k < n.walls.length) : (apart n k).valid = true := by
  have aw := apart_walls hv hk
  have hv0 := hv
  simp only [Net.valid, Bool.and_eq_true] at hv0 ⊢
  obtain ⟨⟨⟨⟨⟨⟨⟨a1, a2⟩, a3⟩, a4⟩, a5⟩, a6⟩, a7⟩, a8⟩ := hv0
  refine ⟨⟨⟨⟨⟨⟨⟨a1, a2⟩, a3⟩, a4⟩, ?_⟩, a6⟩, a7⟩, ?_⟩
  · rw [apart_lw]; exact a5
  · exact List.all_eq_true.2 aw
theorem left_len (hv : n.valid = true) (hk : k < n.walls.length) : (leftN n k).ancs.length = k + 1 := by
  have := (netB hv).lw
  simp only [leftN, List.length_take]; omega
theorem left_lw (hk : k < n.walls.length) : (leftN n k).walls.length = k := by
  simp only [leftN, List.length_take, List.length_set]; omega
theorem right_len : (rightN n k).ancs.length = n.ancs.length - (k + 1) := by simp only [rightN, List.length_drop]
theorem right_lw : (rightN n k).walls.length = n.walls.length - (k + 1) := by simp only [rightN, List.length_drop, List.length_set]
theorem left_valid (hv : n.valid = true) (hk : k < n.walls.length) : (leftN n k).valid = true := by
  have aw := apart_walls hv hk
  have B := netB hv
  have la := B.la; have lw := B.lw
  have hv0 := hv
  simp only [Net.valid, Bool.and_eq_true] at hv0 ⊢
  obtain ⟨⟨⟨⟨⟨⟨⟨a1, a2⟩, a3⟩, a4⟩, a5⟩, a6⟩, a7⟩, a8⟩ := hv0
  refine ⟨⟨⟨⟨⟨⟨⟨a1, a2⟩, a3⟩, ?_⟩, ?_⟩, a6⟩, ?_⟩, ?_⟩
  · rw [left_len hv hk, decide_eq_true_eq]; omega
  · rw [left_len hv hk, left_lw hk, decide_eq_true_eq]; omega
  · exact List.all_eq_true.2 fun y hy => List.all_eq_true.1 a7 y (List.mem_of_mem_take hy)
  · exact List.all_eq_true.2 fun y hy => aw y (List.mem_of_mem_take hy)
theorem right_valid (hv : n.valid = true) (hk : k < n.walls.length) : (rightN n k).valid = true := by
  have aw := apart_walls hv hk
  have B := netB hv
  have la := B.la; have lw := B.lw
  have hv0 := hv
  simp only [Net.valid, Bool.and_eq_true] at hv0 ⊢
  obtain ⟨⟨⟨⟨⟨⟨⟨a1, a2⟩, a3⟩, a4⟩, a5⟩, a6⟩, a7⟩, a8⟩ := hv0
  refine ⟨⟨⟨⟨⟨⟨⟨a1, a2⟩, a3⟩, ?_⟩, ?_⟩, a6⟩, ?_⟩, ?_⟩
  · rw [right_len, decide_eq_true_eq]; omega
  · rw [right_len, right_lw, decide_eq_true_eq]; omega
  · exact List.all_eq_true.2 fun y hy => List.all_eq_true.1 a7 y (List.mem_of_mem_drop hy)
  · exact List.all_eq_true.2 fun y hy => aw y (List.mem_of_mem_drop hy)

theorem apart_ld0 (hk : k < n.walls.length) : ldI (apart n k) t k = 0 := by
  have : (apart n k).walls.getD k default = flatWal n k := by simp [apart, List.getD_eq_getElem?_getD, hk]
  unfold ldI; rw [this]; simp [flatWal]
theorem left_ld {i : Nat} (hi : i < k) : ldI (leftN n k) t i = ldI (apart n k) t i := by
  have : (leftN n k).walls.getD i default = (apart n k).walls.getD i default := by
    simp only [leftN, apart, List.getD_eq_getElem?_getD, List.getElem?_take, hi, if_true]
  unfold ldI; rw [this]
theorem right_ld {i : Nat} : ldI (rightN n k) t i = ldI (apart n k) t (i + (k + 1)) := by
  have : (rightN n k).walls.getD i default = (apart n k).walls.getD (i + (k + 1)) default := by
    simp only [rightN, apart, List.getD_eq_getElem?_getD, List.getElem?_drop, Nat.add_comm]
  unfold ldI; rw [this]
theorem left_can {i : Nat} (hi : i < k + 1) : canI (leftN n k) t i = canI (apart n k) t i := by
  have : (leftN n k).ancs.getD i default = (apart n k).ancs.getD i default := by
    simp only [leftN, apart, List.getD_eq_getElem?_getD, List.getElem?_take, hi, if_true]
  unfold canI; rw [this]
theorem right_can {i : Nat} : canI (rightN n k) t i = canI (apart n k) t (i + (k + 1)) := by
  have : (rightN n k).ancs.getD i default = (apart n k).ancs.getD (i + (k + 1)) default := by
    simp only [rightN, apart, List.getD_eq_getElem?_getD, List.getElem?_drop, Nat.add_comm]
  unfold canI; rw [this]
theorem twice0 {d : Bool} : twice d 0 = 0 := by cases d <;> rfl
theorem left_bears (hv : n.valid = true) (hk : k < n.walls.length) {i : Nat} (hi : i < k + 1) (D : Nat → Bool) : bearsI (leftN n k) t i D = bearsI (apart n k) t i D := by
  have lw := (netB hv).lw
  have e : (apart n k).ancs.length = n.ancs.length := rfl
  unfold bearsI
  rw [left_len hv hk, e]
  congr 1
  · by_cases h : 0 < i
    · rw [if_pos h, if_pos h, left_ld (by omega)]
    · rw [if_neg h, if_neg h]
  · by_cases h : i + 1 < k + 1
    · rw [if_pos h, if_pos (by omega), left_ld (by omega)]
    · obtain rfl : i = k := by omega
      rw [if_neg h, apart_ld0 hk, twice0]; split <;> rfl
theorem right_bears (hv : n.valid = true) (hk : k < n.walls.length) {i : Nat} (hi : i < n.ancs.length - (k + 1)) (D D' : Nat → Bool) (hD : ∀ j, D' j = D (j + (k + 1))) : bearsI (rightN n k) t i D' = bearsI (apart n k) t (i + (k + 1)) D := by
  have lw := (netB hv).lw
  have e : (apart n k).ancs.length = n.ancs.length := rfl
  unfold bearsI
  rw [right_len, e]
  congr 1
  · by_cases h : 0 < i
    · have e1 : i + (k + 1) - 1 = (i - 1) + (k + 1) := by omega
      rw [if_pos h, if_pos (by omega), hD, right_ld, e1]
    · obtain rfl : i = 0 := by omega
      rw [if_neg h, if_pos (by omega), show 0 + (k + 1) - 1 = k by omega, apart_ld0 hk, twice0]
  · by_cases h : i + 1 < n.ancs.length - (k + 1)
    · have e1 : i + (k + 1) + 1 = (i + 1) + (k + 1) := by omega
      rw [if_pos h, if_pos (by omega), hD, right_ld, e1]
    · rw [if_neg h, if_neg (by omega)]
theorem bears_congr {m : Net} {i : Nat} (hi : i < m.ancs.length) {D D' : Nat → Bool} (hD : ∀ j, j < m.ancs.length → D j = D' j) : bearsI m t i D = bearsI m t i D' := by
  unfold bearsI
  congr 1
  · split
    · rw [hD _ (by omega)]
    · rfl
  · split
    · rw [hD _ (by omega)]
    · rfl

theorem good_apart (G : Good n t) (hk : k < n.walls.length) : Good (apart n k) t := good_of (apart_valid G.v hk) G.tr
theorem good_left (G : Good n t) (hk : k < n.walls.length) : Good (leftN n k) t := good_of (left_valid G.v hk) G.tr
theorem good_right (G : Good n t) (hk : k < n.walls.length) : Good (rightN n k) t := good_of (right_valid G.v hk) G.tr

/-- what drags: on the left, and on the right -/
theorem apart_lfp (G : Good n t) (hk : k < n.walls.length) : ∀ i, i < n.ancs.length → lfp (apart n k) t none6 i = if i < k + 1 then lfp (leftN n k) t none6 i else lfp (rightN n k) t none6 (i - (k + 1)) := by
  have lw := (netB G.v).lw
  have NL := none_lfp (good_left G hk).toFair
  have NR := none_lfp (good_right G hk).toFair
  have ll := left_len G.v hk
  obtain ⟨A, hA⟩ : ∃ A : Nat → Bool, A = fun i => if i < k + 1 then lfp (leftN n k) t none6 i else lfp (rightN n k) t none6 (i - (k + 1)) := ⟨_, rfl⟩
  have AL : ∀ i, i < k + 1 → A i = lfp (leftN n k) t none6 i := fun i hi => by rw [hA]; simp only [hi, if_true]
  have AR : ∀ i, A (i + (k + 1)) = lfp (rightN n k) t none6 i := fun i => by
    rw [hA]; simp only [show ¬ i + (k + 1) < k + 1 by omega, if_false, show i + (k + 1) - (k + 1) = i by omega]
  have key : IsLfp (apart n k) t none6 A := by
    refine ⟨fun i hi hd => ?_, fun i hi h => by simp [none6] at h, fun D hc hs i hi h => ?_⟩
    · have hi' : i < n.ancs.length := hi
      by_cases h : i < k + 1
      · rw [AL i h]
        refine NL.cl i (by rw [ll]; exact h) ?_
        unfold drg at hd ⊢
        rw [bears_congr (D' := A) (by rw [ll]; exact h) (fun j hj => (AL j (by rw [ll] at hj; exact hj)).symm), left_bears G.v hk h, left_can h]
        exact hd
      · obtain ⟨j, rfl⟩ : ∃ j, i = j + (k + 1) := ⟨i - (k + 1), by omega⟩
        rw [AR]
        refine NR.cl j (by rw [right_len]; omega) ?_
        unfold drg at hd ⊢
        rw [right_bears G.v hk (by omega) A _ (fun j => (AR j).symm), right_can]
        exact hd
    · have hi' : i < n.ancs.length := hi
      by_cases hl : i < k + 1
      · rw [AL i hl] at h
        refine NL.least D (fun j hj hd => ?_) (fun j hj h => by simp [none6] at h) i (by rw [ll]; exact hl) h
        rw [ll] at hj
        refine hc j (show j < n.ancs.length by omega) ?_
        unfold drg at hd ⊢
        rw [← left_bears G.v hk hj, ← left_can hj]; exact hd
      · obtain ⟨j, rfl⟩ : ∃ j, i = j + (k + 1) := ⟨i - (k + 1), by omega⟩
        rw [AR] at h
        refine NR.least (fun j => D (j + (k + 1))) (fun j hj hd => ?_) (fun j hj h => by simp [none6] at h) j (by rw [right_len]; omega) h
        rw [right_len] at hj
        refine hc (j + (k + 1)) (show j + (k + 1) < n.ancs.length by omega) ?_
        unfold drg at hd ⊢
        rw [← right_bears G.v hk hj D _ (fun j => rfl), ← right_can]; exact hd
  intro i hi
  rw [lfp_unique (none_lfp (good_apart G hk).toFair) key i hi, hA]

theorem range_split {a b : Nat} : List.range (a + b) = List.range a ++ (List.range b).map (· + a) := by
  rw [List.range_add]
  congr 1
  exact List.map_congr_left fun i _ => Nat.add_comm _ _
theorem apart_lst (G : Good n t) (hk : k < n.walls.length) : lst (apart n k) (lfp (apart n k) t none6) = lst (leftN n k) (lfp (leftN n k) t none6) ++ (lst (rightN n k) (lfp (rightN n k) t none6)).map fun (x : Int) => x + (k : Int) + 1 := by
  have lw := (netB G.v).lw
  have h := apart_lfp G hk
  have e : (apart n k).ancs.length = (k + 1) + (n.ancs.length - (k + 1)) := by show n.ancs.length = _; omega
  unfold lst
  rw [e, left_len G.v hk, right_len, range_split, List.filter_append, List.map_append, List.filter_map, List.map_map, List.map_map]
  congr 1
  · congr 1
    apply List.filter_congr
    intro i hi
    have hi' := List.mem_range.1 hi
    rw [h i (by omega), if_pos hi']
  · have e2 : List.filter ((lfp (apart n k) t none6) ∘ fun x => x + (k + 1)) (List.range (n.ancs.length - (k + 1))) = List.filter (lfp (rightN n k) t none6) (List.range (n.ancs.length - (k + 1))) := by
      apply List.filter_congr
      intro i hi
      have hi' := List.mem_range.1 hi
      simp only [Function.comp]
      rw [h _ (by omega), if_neg (by omega), Nat.add_sub_cancel]
    rw [e2]
    apply List.map_congr_left
    intro i _
    simp only [Function.comp]
    omega
end

theorem sliceV_hi {α : Type} {esz : Nat} {enc : α → List AV} (he : ∀ a, (enc a).length = esz) {l : List α} {h : Int} (h0 : 0 ≤ h) (h1 : h ≤ l.length) : sliceV esz (slV esz enc l) none (some (I h)) = some (slV esz enc (l.take h.toNat)) := by
  have e1 : ((l.flatMap enc).drop (0 * esz)).take ((h.toNat - 0) * esz) = (l.take h.toNat).flatMap enc := by
    rw [Nat.zero_mul, List.drop_zero, Nat.sub_zero]
    have : l.flatMap enc = (l.take h.toNat).flatMap enc ++ (l.drop h.toNat).flatMap enc := by rw [← List.flatMap_append, List.take_append_drop]
    rw [this, List.take_append_of_le_length (by rw [flat_len he, List.length_take, Nat.min_eq_left (by omega)]; exact Nat.le_refl _), List.take_of_length_le (by rw [flat_len he, List.length_take, Nat.min_eq_left (by omega)]; exact Nat.le_refl _)]
  simp only [sliceV, slV, if_true, sliceB, h0, h1, and_self, e1]
  rw [List.length_take, Nat.min_eq_left (by omega), Nat.sub_zero]
theorem sliceV_lo {α : Type} {esz : Nat} {enc : α → List AV} (he : ∀ a, (enc a).length = esz) {l : List α} {h : Int} (h0 : 0 ≤ h) (h1 : h ≤ l.length) : sliceV esz (slV esz enc l) (some (I h)) none = some (slV esz enc (l.drop h.toNat)) := by
  have e1 : ((l.flatMap enc).drop (h.toNat * esz)).take ((l.length - h.toNat) * esz) = (l.drop h.toNat).flatMap enc := by
    have : l.flatMap enc = (l.take h.toNat).flatMap enc ++ (l.drop h.toNat).flatMap enc := by rw [← List.flatMap_append, List.take_append_drop]
    have hl : ((l.take h.toNat).flatMap enc).length = h.toNat * esz := by rw [flat_len he, List.length_take, Nat.min_eq_left (by omega)]
    rw [this, List.drop_append_of_le_length (by omega), List.drop_eq_nil_of_le (by omega), List.nil_append, List.take_of_length_le (by rw [flat_len he, List.length_drop]; exact Nat.le_refl _)]
  simp only [sliceV, slV, if_true, sliceB, h0, h1, and_self, e1]
  rw [List.length_drop]
theorem view_ms_at {α : Type} {esz : Nat} {enc : α → List AV} (he : ∀ a, (enc a).length = esz) (hi : ∀ a, ∀ x ∈ enc a, ∃ k i, x = .int k i) {h : List AO} {o : Nat} {l : List α} (ho : h[o]? = some (.cells (l.flatMap enc) false)) : Vw h (.ms esz o 0 l.length) (slV esz enc l) := by
  intro J
  have e : (h ++ J)[o]? = some (.cells (l.flatMap enc) false) := by rw [List.getElem?_append_left (at_len ho)]; exact ho
  have e2 := flat_take (l := l) he
  simp only [view_ms, rowOf_ms, Am.rowAt, e, Option.bind_some, AO.row?, List.drop_zero, e2, flat_len he, if_true, flat_view hi]
  rfl
end Go.Proofs.Ytpflneddfhifkaa.S
