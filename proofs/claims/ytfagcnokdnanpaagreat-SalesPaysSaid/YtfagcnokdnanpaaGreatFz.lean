/-
SalesWithout.
-/
import Derived.Test.YtfagcnokdnanpaaGreatFv
namespace Go.Proofs.YtfagcnokdnanpaaGreat.S
open Go Go.Am Go.Proofs.YtfagcnokdnanpaaGreat.T
set_option maxRecDepth 100000
set_option linter.unusedSimpArgs false
set_option linter.unusedVariables false
def ixS (q : List Nat) (x : Int) : Int := (q.getD x.toNat 0 : Nat)
theorem ix_bAt {L : List Bi} {q : List Nat} {x : Int} (x0 : 0 ≤ x) (hx : x < q.length) : bAt (q.map fun (j : Nat) => bAt L j) x = bAt L (ixS q x) := by
  have h : x.toNat < q.length := by omega
  show (q.map fun (j : Nat) => bAt L j).getD x.toNat default = bAt L ((q.getD x.toNat 0 : Nat) : Int)
  simp only [List.getD_eq_getElem?_getD, List.getElem?_map, List.getElem?_eq_getElem h, Option.map_some, Option.getD_some]
theorem ix_lt {q : List Nat} (hq : q.Pairwise (fun a b => a < b)) {a b : Int} (a0 : 0 ≤ a) (ha : a < q.length) (b0 : 0 ≤ b) (hb : b < q.length) : ixS q a < ixS q b ↔ a < b := by
  have mono : ∀ i j : Nat, i < j → j < q.length → q.getD i 0 < q.getD j 0 := fun i j hij hj => by
    have := (List.pairwise_iff_getElem.1 hq) i j (by omega) hj hij
    simpa [List.getD_eq_getElem?_getD, List.getElem?_eq_getElem hj, List.getElem?_eq_getElem (show i < q.length by omega)] using this
  constructor
  · intro h
    rcases Int.lt_trichotomy a b with h1 | rfl | h1
    · exact h1
    · exact absurd h (Int.lt_irrefl _)
    · have := mono b.toNat a.toNat (by omega) (by omega)
      simp only [ixS] at h; omega
  · intro h
    have := mono a.toNat b.toNat (by omega) (by omega)
    simp only [ixS]; omega
theorem ix_isS {r : Int → Bool} {L : List Bi} {q : List Nat} (hq : q.Pairwise (fun a b => a < b)) (hl : ∀ j ∈ q, j < L.length) {s : List Int} (hs : ∀ x ∈ s, 0 ≤ x ∧ x < q.length) : isS r (q.map fun (j : Nat) => bAt L j) s = isS r L (s.map (ixS q)) := by
  have hin : ∀ x : Int, 0 ≤ x → x < q.length → ixS q x < L.length := fun x x0 hx => by
    have h : x.toNat < q.length := by omega
    have : q.getD x.toNat 0 ∈ q := by rw [List.getD_eq_getElem?_getD, List.getElem?_eq_getElem h]; exact List.getElem_mem h
    have := hl _ this
    simp only [ixS]; omega
  rw [Bool.eq_iff_iff, isS_iff, isS_iff, List.pairwise_map, List.length_map]
  constructor
  · rintro ⟨h1, h2⟩
    refine ⟨fun y hy => ?_, List.Pairwise.imp_of_mem ?_ h2⟩
    · obtain ⟨x, hx, rfl⟩ := List.mem_map.1 hy
      have := (h1 x hx).2.2
      rw [ix_bAt (hs x hx).1 (hs x hx).2] at this
      exact ⟨by simp only [ixS]; omega, hin x (hs x hx).1 (hs x hx).2, this⟩
    · intro a b ha hb h
      obtain ⟨p1, p2, p3⟩ := h
      rw [ix_bAt (hs a ha).1 (hs a ha).2, ix_bAt (hs b hb).1 (hs b hb).2] at p2 p3
      exact ⟨(ix_lt hq (hs a ha).1 (hs a ha).2 (hs b hb).1 (hs b hb).2).2 p1, p2, p3⟩
  · rintro ⟨h1, h2⟩
    refine ⟨fun x hx => ?_, List.Pairwise.imp_of_mem ?_ h2⟩
    · have := (h1 _ (List.mem_map_of_mem hx)).2.2
      rw [ix_bAt (hs x hx).1 (hs x hx).2]
      exact ⟨(hs x hx).1, (hs x hx).2, this⟩
    · intro a b ha hb h
      obtain ⟨p1, p2, p3⟩ := h
      refine ⟨(ix_lt hq (hs a ha).1 (hs a ha).2 (hs b hb).1 (hs b hb).2).1 p1, ?_, ?_⟩
      · rw [ix_bAt (hs a ha).1 (hs a ha).2, ix_bAt (hs b hb).1 (hs b hb).2]; exact p2
      · rw [ix_bAt (hs a ha).1 (hs a ha).2, ix_bAt (hs b hb).1 (hs b hb).2]; exact p3
theorem ix_prc {L : List Bi} {q : List Nat} {s : List Int} (hs : ∀ x ∈ s, 0 ≤ x ∧ x < q.length) : prc (q.map fun (j : Nat) => bAt L j) s = prc L (s.map (ixS q)) := by
  simp only [prc, List.map_map]
  congr 1
  refine List.map_congr_left fun x hx => ?_
  rw [ix_bAt (hs x hx).1 (hs x hx).2]; rfl
theorem ix_sur {q : List Nat} : ∀ {s : List Int}, (∀ x ∈ s, 0 ≤ x ∧ x.toNat ∈ q) → ∃ t : List Int, (∀ x ∈ t, 0 ≤ x ∧ x < q.length) ∧ t.map (ixS q) = s
  | [], _ => ⟨[], by simp, rfl⟩
  | x :: s, h => by
    obtain ⟨t, ht, e⟩ := ix_sur (s := s) fun y hy => h y (by simp [hy])
    obtain ⟨x0, hx⟩ := h x (by simp)
    obtain ⟨j, hj, ej⟩ := List.mem_iff_getElem.1 hx
    refine ⟨(j : Int) :: t, fun y hy => ?_, ?_⟩
    · rcases List.mem_cons.1 hy with rfl | hy
      · omega
      · exact ht y hy
    · simp only [List.map_cons, e, List.cons.injEq, and_true, ixS, Int.toNat_natCast, List.getD_eq_getElem?_getD, List.getElem?_eq_getElem hj, Option.getD_some, ej]; omega
section
variable {f : Fs} {k p b pv bv : AV} {w : Nat → AV}
theorem wo_bids (f : Fs) (u : Int) : (f.wo u).bids = (othS f.bids u f.bids.length).map fun (j : Nat) => bAt f.bids j := by
  have := othS_map (L := f.bids) (u := u) f.bids.length (Nat.le_refl _)
  rw [List.take_length] at this
  exact this.symm
theorem wo_bg (G : FG f) (u : Int) : BG f.n f.h.bs.length (f.wo u).bids := by
  have hm : ∀ x ∈ (f.wo u).bids, x ∈ f.bids := fun x hx => (List.mem_filter.1 hx).1
  have hg : ∀ i : Nat, i < (f.wo u).bids.length → ∃ j : Nat, j < f.bids.length ∧ (f.wo u).bids.getD i default = f.bids.getD j default := fun i hi => by
    have : (f.wo u).bids.getD i default ∈ (f.wo u).bids := getD_mem hi
    obtain ⟨j, hj, e⟩ := mem_getD (d := default) (hm _ this)
    exact ⟨j, hj, e.symm⟩
  have ll : (f.wo u).bids.length ≤ f.bids.length := List.length_filter_le _ _
  refine ⟨Nat.le_trans ll G.bg.l, G.bg.nn, fun i hi => ?_, fun i hi => ?_, fun i hi => ?_⟩ <;> obtain ⟨j, hj, e⟩ := hg i hi <;> rw [e]
  · exact G.bg.u j hj
  · exact G.bg.c j hj
  · exact G.bg.b j hj
theorem wo_tops (G : FG f) (u : Int) : tops (f.wo u).bids f.r = noU f.bids f.r u := by
  have hq : (othS f.bids u f.bids.length).Pairwise (fun a b => a < b) := List.pairwise_lt_range.filter _
  have hmem : ∀ j, j ∈ othS f.bids u f.bids.length ↔ j < f.bids.length ∧ (bAt f.bids j).u ≠ u := fun j => by simp [othS]
  have hl : ∀ j ∈ othS f.bids u f.bids.length, j < f.bids.length := fun j hj => ((hmem j).1 hj).1
  have G' := wo_bg G u
  have eb := wo_bids f u
  have w1 := wins_is G' (r := f.r)
  have m1 := isS_mem w1.1
  have le1 : tops (f.wo u).bids f.r ≤ noU f.bids f.r u := by
    rw [← w1.2.1]
    have hs := w1.1
    generalize wins (f.wo u).bids f.r = s at hs m1
    rw [eb] at hs m1 ⊢
    rw [List.length_map] at m1
    rw [ix_isS hq hl m1] at hs
    rw [ix_prc m1]
    refine best_ge G.bg hs ?_
    simp only [Bool.not_eq_true', List.any_eq_false]
    intro y hy
    obtain ⟨x, hx, rfl⟩ := List.mem_map.1 hy
    have h : x.toNat < (othS f.bids u f.bids.length).length := by have := m1 x hx; omega
    have hm : (othS f.bids u f.bids.length).getD x.toNat 0 ∈ othS f.bids u f.bids.length := by rw [List.getD_eq_getElem?_getD, List.getElem?_eq_getElem h]; exact List.getElem_mem h
    have := ((hmem _).1 hm).2
    simpa [byU, ixS] using this
  have le2 : noU f.bids f.r u ≤ tops (f.wo u).bids f.r := by
    rcases best_at G.bg (r := f.r) (pm := fun s => !s.any (byU f.bids u)) with ⟨_, _, a3⟩ | ⟨a1, a2, a3, _⟩
    · have := a3 [] isS_nil; cases this
    · show (bsT _ _ _).2 ≤ _
      rw [a3]
      generalize (bsT f.bids (fun s => !s.any (byU f.bids u)) (allS f.r f.bids)).1 = s at a1 a2
      simp only [Bool.not_eq_true', List.any_eq_false] at a2
      obtain ⟨t, ht, rfl⟩ := ix_sur (q := othS f.bids u f.bids.length) (s := s) fun x hx => by
        have hx' := isS_mem a1 x hx
        have hb := a2 x hx
        refine ⟨hx'.1, (hmem _).2 ⟨by omega, ?_⟩⟩
        rw [show ((x.toNat : Nat) : Int) = x by omega]
        simpa [byU] using hb
      rw [← ix_isS hq hl ht, ← eb] at a1
      have := tops_ge G' a1
      rw [eb, ix_prc ht, ← eb] at this
      exact this
  omega
end
end Go.Proofs.YtfagcnokdnanpaaGreat.S
