/-
SalesHonest.
-/
import Derived.Test.YtfagcnokdnanpaaGreatFv
namespace Go.Proofs.YtfagcnokdnanpaaGreat.S
open Go Go.Am Go.Proofs.YtfagcnokdnanpaaGreat.T
set_option maxRecDepth 100000
set_option linter.unusedSimpArgs false
set_option linter.unusedVariables false
section
variable {f : Fs} {k p b pv bv : AV} {w : Nat → AV}
theorem off_bg {n : Int} {nb : Nat} {L : List Bi} (G : BG n nb L) {c z : Int} (c0 : 0 ≤ c) (hc : c < L.length) (hz : 0 ≤ z ∧ z ≤ 99) : BG n nb (L.set c.toNat { bAt L c with c := z }) := by
  have e : ∀ i : Nat, (L.set c.toNat { bAt L c with c := z }).getD i default = if (i : Int) = c then { bAt L c with c := z } else L.getD i default := fun i => by
    have := bAt_set (b := { bAt L c with c := z }) c0 hc (x := (i : Int)) (by omega)
    simpa [bAt] using this
  have gc := G.at c0 hc
  have gb := G.b c.toNat (by omega)
  refine ⟨by rw [List.length_set]; exact G.l, G.nn, fun i hi => ?_, fun i hi => ?_, fun i hi => ?_⟩ <;> rw [List.length_set] at hi <;> rw [e] <;> split
  · exact ⟨gc.1, gc.2.1⟩
  · exact G.u i hi
  · exact hz
  · exact G.c i hi
  · exact gb
  · exact G.b i hi
theorem FG.off (G : FG f) {c z : Int} (c0 : 0 ≤ c) (hc : c < f.bids.length) (hz : 0 ≤ z ∧ z ≤ 99) : FG (f.off c z) := ⟨G.h, G.pk, G.d, off_bg G.bg c0 hc hz⟩
theorem FsOk.off (H : FsOk f k p b pv bv w) {c z : Int} (c0 : 0 ≤ c) (hc : c < f.bids.length) : ∃ w', FsOk (f.off c z) (hsK f) (hsP f) (hsB f) (slV 1 intL f.pk) (resB (f.off c z).bids) w' := by
  obtain ⟨w', h⟩ := cpF_in (f.off c z)
  have e : ∀ i : Nat, (f.off c z).bids.getD i default = if (i : Int) = c then { bAt f.bids c with c := z } else f.bids.getD i default := fun i => by
    have := bAt_set (L := f.bids) (b := { bAt f.bids c with c := z }) c0 hc (x := (i : Int)) (by omega)
    show (f.bids.set c.toNat { bAt f.bids c with c := z }).getD i default = _
    simpa [bAt] using this
  refine ⟨w', h, ⟨h.h, H.ho.nk, H.ho.np, H.ho.nb⟩, H.np, by show (f.bids.set _ _).length ≤ 41; rw [List.length_set]; exact H.nb, fun i hi => ?_⟩
  have hi' : i < f.bids.length := by have : (f.off c z).bids.length = f.bids.length := List.length_set; omega
  rw [e]
  split
  · exact (bAt_w H c0 hc).2
  · exact H.nw i hi'
theorem off_best (G : FG f) {c z : Int} (c0 : 0 ≤ c) (hc : c < f.bids.length) (hz : 0 ≤ z ∧ z ≤ 99) :
    (wit f.bids f.r c ≥ 0 → wit (f.off c z).bids f.r c = wit f.bids f.r c + (z - (bAt f.bids c).c)) ∧ (wit f.bids f.r c < 0 → wit (f.off c z).bids f.r c = -1) ∧ wot (f.off c z).bids f.r c = wot f.bids f.r c := by
  have G' := (G.off c0 hc hz).bg
  have po : ∀ s, isS f.r f.bids s = true → prc (f.off c z).bids s = prc f.bids s + (if c ∈ s then z - (bAt f.bids c).c else 0) := fun s hs => prc_off c0 hc (fun x hx => (isS_mem hs x hx).1) (asc_of (isS_iff.1 hs).2)
  have io : ∀ s, isS f.r (f.off c z).bids s = isS f.r f.bids s := fun s => isS_off c0 hc
  have A := best_at G.bg (r := f.r) (pm := fun s => decide (c ∈ s))
  have B := best_at G' (r := f.r) (pm := fun s => decide (c ∈ s))
  have C := best_at G.bg (r := f.r) (pm := fun s => !decide (c ∈ s))
  have D := best_at G' (r := f.r) (pm := fun s => !decide (c ∈ s))
  refine ⟨fun h => ?_, fun h => ?_, ?_⟩
  · show (bsT _ _ _).2 = (bsT _ _ _).2 + _
    have h' : (bsT f.bids (fun s => decide (c ∈ s)) (allS f.r f.bids)).2 ≥ 0 := h
    rcases A with ⟨a1, _, _⟩ | ⟨a1, a2, a3, _⟩
    · omega
    · have g1 := best_ge G' (r := f.r) (pm := fun s => decide (c ∈ s)) (by rw [io]; exact a1) a2
      rw [po _ a1, if_pos (by simpa using a2)] at g1
      rcases B with ⟨_, _, b3⟩ | ⟨b1, b2, b3, _⟩
      · have := b3 _ (by rw [io]; exact a1)
        try simp only at a2 this
        rw [a2] at this; cases this
      · rw [io] at b1
        have g2 := best_ge G.bg (r := f.r) (pm := fun s => decide (c ∈ s)) b1 b2
        rw [po _ b1, if_pos (by simpa using b2)] at b3
        omega
  · have h' : (bsT f.bids (fun s => decide (c ∈ s)) (allS f.r f.bids)).2 < 0 := h
    show (bsT _ _ _).2 = -1
    rcases B with ⟨b1, _, _⟩ | ⟨b1, b2, b3, _⟩
    · exact b1
    · rw [io] at b1
      have g2 := best_ge G.bg (r := f.r) (pm := fun s => decide (c ∈ s)) b1 b2
      have := (sale_bd G.bg b1).1
      omega
  · show (bsT _ _ _).2 = (bsT _ _ _).2
    rcases C with ⟨a1, _, a3⟩ | ⟨a1, a2, a3, _⟩
    · rcases D with ⟨b1, _, _⟩ | ⟨b1, b2, _, _⟩
      · omega
      · rw [io] at b1
        have := a3 _ b1
        try simp only at b2 this
        rw [b2] at this; cases this
    · have g1 := best_ge G' (r := f.r) (pm := fun s => !decide (c ∈ s)) (by rw [io]; exact a1) a2
      rw [po _ a1, if_neg (by simpa using a2)] at g1
      rcases D with ⟨_, _, b3⟩ | ⟨b1, b2, b3, _⟩
      · have := b3 _ (by rw [io]; exact a1)
        try simp only at a2 this
        rw [a2] at this; cases this
      · rw [io] at b1
        have g2 := best_ge G.bg (r := f.r) (pm := fun s => !decide (c ∈ s)) b1 b2
        rw [po _ b1, if_neg (by simpa using b2)] at b3
        omega
end
end Go.Proofs.YtfagcnokdnanpaaGreat.S
