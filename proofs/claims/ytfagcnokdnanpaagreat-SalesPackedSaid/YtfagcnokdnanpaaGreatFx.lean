/-
SalesHonest.
-/
import Derived.Test.YtfagcnokdnanpaaGreatFv
namespace Go.Proofs.YtfagcnokdnanpaaGreat.S
open Go Go.Am Go.Proofs.YtfagcnokdnanpaaGreat.T
set_option maxRecDepth 100000
set_option linter.unusedSimpArgs false
set_option linter.unusedVariables false
section
variable {f : Fs} {k p b pv bv : AV} {w : Nat → AV}
theorem off_bg {n : Int} {nb : Nat} {L : List Bi} (G : BG n nb L) {c z : Int} (c0 : 0 ≤ c) (hc : c < L.length) (hz : 0 ≤ z ∧ z ≤ 99) : BG n nb (L.set c.toNat { bAt L c with c := z }) := by
  have e : ∀ i : Nat, (L.set c.toNat { bAt L c with c := z }).getD i default = if (i : Int) = c then { bAt L c with c := z } else L.getD i default := fun i => by
    have := bAt_set (b := { bAt L c with c := z }) c0 hc (x := (i : Int)) (by omega)
    simpa [bAt] using this
  have gc := G.at c0 hc
  have gb := G.b c.toNat (by omega)
  refine ⟨by rw [List.length_set]; exact G.l, G.nn, fun i hi => ?_, fun i hi => ?_, fun i hi => ?_⟩ <;> rw [List.length_set] at hi <;> rw [e] <;> split
  · exact ⟨gc.1, gc.2.1⟩
  · exact G.u i hi
  · exact hz
  · exact G.c i hi
  · exact gb
  · exact G.b i hi
theorem FG.off (G : FG f) {c z : Int} (c0 : 0 ≤ c) (hc : c < f.bids.length) (hz : 0 ≤ z ∧ z ≤ 99) : FG (f.off c z) := ⟨G.h, G.pk, G.d, off_bg G.bg c0 hc hz⟩
theorem FsOk.off (H : FsOk f k p b pv bv w) {c z : Int} (c0 : 0 ≤ c) (hc : c < f.bids.length) : ∃ w', FsOk (f.off c z) (hsK f) (hsP f) (hsB f) (slV 1 intL f.pk) (resB (f.off c z).bids) w' := by
  obtain ⟨w', h⟩ := cpF_in (f.off c z)
  have e : ∀ i : Nat, (f.off c z).bids.getD i default = if (i : Int) = c then { bAt f.bids c with c := z } else f.bids.getD i default := fun i => by
    have := bAt_set (L := f.bids) (b := { bAt f.bids c with c := z }) c0 hc (x := (i : Int)) (by omega)
    show (f.bids.set c.toNat { bAt f.bids c with c := z }).getD i default = _
    simpa [bAt] using this
  refine ⟨w', h, ⟨h.h, H.ho.nk, H.ho.np, H.ho.nb⟩, H.np, by show (f.bids.set _ _).length ≤ 41; rw [List.length_set]; exact H.nb, fun i hi => ?_⟩
  have hi' : i < f.bids.length := by have : (f.off c z).bids.length = f.bids.length := List.length_set; omega
  rw [e]
  split
  · exact (bAt_w H c0 hc).2
  · exact H.nw i hi'
end
end Go.Proofs.YtfagcnokdnanpaaGreat.S
