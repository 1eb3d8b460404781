/-
SalesHonest.
-/
import Derived.Test.YtfagcnokdnanpaaGreatFv
namespace Go.Proofs.YtfagcnokdnanpaaGreat.S
open Go Go.Am Go.Proofs.YtfagcnokdnanpaaGreat.T
set_option maxRecDepth 100000
set_option linter.unusedSimpArgs false
set_option linter.unusedVariables false

section
variable {f : Fs} {k p b pv bv : AV} {w : Nat → AV}
theorem off_r {f : Fs} {c z : Int} : (f.off c z).r = f.r := rfl
theorem off_bg {n : Int} {nb : Nat} {L : List Bi} (G : BG n nb L) {c z : Int} (c0 : 0 ≤ c) (hc : c < L.length) (hz : 0 ≤ z ∧ z ≤ 99) : BG n nb (L.set c.toNat { bAt L c with c := z }) := by
  have e : ∀ i : Nat, (L.set c.toNat { bAt L c with c := z }).getD i default = if (i : Int) = c then { bAt L c with c := z } else L.getD i default := fun i => by
    have := bAt_set (b := { bAt L c with c := z }) c0 hc (x := (i : Int)) (by omega)
    simpa [bAt] using this
  have gc := G.at c0 hc
  have gb := G.b c.toNat (by omega)
  refine ⟨by rw [List.length_set]; exact G.l, G.nn, fun i hi => ?_, fun i hi => ?_, fun i hi => ?_⟩ <;> rw [List.length_set] at hi <;> rw [e] <;> split
  · exact ⟨gc.1, gc.2.1⟩
  · exact G.u i hi
  · exact hz
  · exact G.c i hi
  · exact gb
  · exact G.b i hi
theorem FG.off (G : FG f) {c z : Int} (c0 : 0 ≤ c) (hc : c < f.bids.length) (hz : 0 ≤ z ∧ z ≤ 99) : FG (f.off c z) := ⟨G.h, G.pk, G.d, off_bg G.bg c0 hc hz⟩
theorem FsOk.off (H : FsOk f k p b pv bv w) {c z : Int} (c0 : 0 ≤ c) (hc : c < f.bids.length) : ∃ w', FsOk (f.off c z) (hsK f) (hsP f) (hsB f) (slV 1 intL f.pk) (resB (f.off c z).bids) w' := by
  obtain ⟨w', h⟩ := cpF_in (f.off c z)
  have e : ∀ i : Nat, (f.off c z).bids.getD i default = if (i : Int) = c then { bAt f.bids c with c := z } else f.bids.getD i default := fun i => by
    have := bAt_set (L := f.bids) (b := { bAt f.bids c with c := z }) c0 hc (x := (i : Int)) (by omega)
    show (f.bids.set c.toNat { bAt f.bids c with c := z }).getD i default = _
    simpa [bAt] using this
  refine ⟨w', h, ⟨h.h, H.ho.nk, H.ho.np, H.ho.nb⟩, H.np, by show (f.bids.set _ _).length ≤ 41; rw [List.length_set]; exact H.nb, fun i hi => ?_⟩
  have hi' : i < f.bids.length := by have : (f.off c z).bids.length = f.bids.length := List.length_set; omega
  rw [e]
  split
  · exact (bAt_w H c0 hc).2
  · exact H.nw i hi'
theorem off_valid (hv : f.valid = true) {c z : Int} (c0 : 0 ≤ c) (hc : c < f.bids.length) (hz : 0 ≤ z ∧ z ≤ 99) : (f.off c z).valid = true := by
  have hv' := hv
  simp only [Fs.valid, Bool.and_eq_true, decide_eq_true_eq, List.all_eq_true, List.mem_range] at hv ⊢
  obtain ⟨⟨⟨⟨⟨h1, h2⟩, h3⟩, h4⟩, h5⟩, h6⟩ := hv
  have hl : (f.off c z).bids.length = f.bids.length := List.length_set
  refine ⟨⟨⟨⟨⟨h1, h2⟩, h3⟩, h4⟩, by rw [hl]; exact h5⟩, fun i hi => ?_⟩
  rw [hl] at hi
  have e := bAt_set (L := f.bids) (b := { bAt f.bids c with c := z }) c0 hc (x := (i : Int)) (by omega)
  show bidOk f.n f.h.bs.length (bAt (f.bids.set c.toNat { bAt f.bids c with c := z }) i) = true
  rw [e]
  split
  · have := h6 c.toNat (by omega)
    rw [show ((c.toNat : Nat) : Int) = c by omega] at this
    simp only [bidOk, Bool.and_eq_true] at this ⊢
    exact ⟨⟨⟨this.1.1.1, inR_iff.2 hz⟩, this.1.2⟩, this.2⟩
  · exact h6 i hi
/-- what more in a bid comes to -/
theorem off_best (G : FG f) {c z : Int} (c0 : 0 ≤ c) (hc : c < f.bids.length) (hz : 0 ≤ z ∧ z ≤ 99) :
    (wit f.bids f.r c ≥ 0 → wit (f.off c z).bids f.r c = wit f.bids f.r c + (z - (bAt f.bids c).c)) ∧ (wit f.bids f.r c < 0 → wit (f.off c z).bids f.r c = -1) ∧ wot (f.off c z).bids f.r c = wot f.bids f.r c := by
  have G' := (G.off c0 hc hz).bg
  have po : ∀ s, isS f.r f.bids s = true → prc (f.off c z).bids s = prc f.bids s + (if c ∈ s then z - (bAt f.bids c).c else 0) := fun s hs => prc_off c0 hc (fun x hx => (isS_mem hs x hx).1) (asc_of (isS_iff.1 hs).2)
  have io : ∀ s, isS f.r (f.off c z).bids s = isS f.r f.bids s := fun s => isS_off c0 hc
  have A := best_at G.bg (r := f.r) (pm := fun s => decide (c ∈ s))
  have B := best_at G' (r := f.r) (pm := fun s => decide (c ∈ s))
  have C := best_at G.bg (r := f.r) (pm := fun s => !decide (c ∈ s))
  have D := best_at G' (r := f.r) (pm := fun s => !decide (c ∈ s))
  refine ⟨fun h => ?_, fun h => ?_, ?_⟩
  · show (bsT _ _ _).2 = (bsT _ _ _).2 + _
    have h' : (bsT f.bids (fun s => decide (c ∈ s)) (allS f.r f.bids)).2 ≥ 0 := h
    rcases A with ⟨a1, _, _⟩ | ⟨a1, a2, a3, _⟩
    · omega
    · have g1 := best_ge G' (r := f.r) (pm := fun s => decide (c ∈ s)) (by rw [io]; exact a1) a2
      rw [po _ a1, if_pos (by simpa using a2)] at g1
      rcases B with ⟨_, _, b3⟩ | ⟨b1, b2, b3, _⟩
      · have := b3 _ (by rw [io]; exact a1)
        try simp only at a2 this
        rw [a2] at this; cases this
      · rw [io] at b1
        have g2 := best_ge G.bg (r := f.r) (pm := fun s => decide (c ∈ s)) b1 b2
        rw [po _ b1, if_pos (by simpa using b2)] at b3
        omega
  · have h' : (bsT f.bids (fun s => decide (c ∈ s)) (allS f.r f.bids)).2 < 0 := h
    show (bsT _ _ _).2 = -1
    rcases B with ⟨b1, _, _⟩ | ⟨b1, b2, b3, _⟩
    · exact b1
    · rw [io] at b1
      have g2 := best_ge G.bg (r := f.r) (pm := fun s => decide (c ∈ s)) b1 b2
      have := (sale_bd G.bg b1).1
      omega
  · show (bsT _ _ _).2 = (bsT _ _ _).2
    rcases C with ⟨a1, _, a3⟩ | ⟨a1, a2, a3, _⟩
    · rcases D with ⟨b1, _, _⟩ | ⟨b1, b2, _, _⟩
      · omega
      · rw [io] at b1
        have := a3 _ b1
        try simp only at b2 this
        rw [b2] at this; cases this
    · have g1 := best_ge G' (r := f.r) (pm := fun s => !decide (c ∈ s)) (by rw [io]; exact a1) a2
      rw [po _ a1, if_neg (by simpa using a2)] at g1
      rcases D with ⟨_, _, b3⟩ | ⟨b1, b2, b3, _⟩
      · have := b3 _ (by rw [io]; exact a1)
        try simp only at a2 this
        rw [a2] at this; cases this
      · rw [io] at b1
        have g2 := best_ge G.bg (r := f.r) (pm := fun s => !decide (c ∈ s)) b1 b2
        rw [po _ b1, if_neg (by simpa using b2)] at b3
        omega
theorem off_tops (G : FG f) {c z : Int} (c0 : 0 ≤ c) (hc : c < f.bids.length) (hz : 0 ≤ z ∧ z ≤ 99) : tops (f.off c z).bids f.r = mx (wit (f.off c z).bids f.r c) (wot (f.off c z).bids f.r c) ∧ tops f.bids f.r = mx (wit f.bids f.r c) (wot f.bids f.r c) := by
  have a := wit_le G.bg (r := f.r) (c := c)
  have b := wit_le (G.off c0 hc hz).bg (r := f.r) (c := c)
  constructor
  · unfold mx; split <;> omega
  · unfold mx; split <;> omega
/-- the winner who bids more wins, and pays the same -/
theorem honest (G : FG f) {u c m : Int} (hf : (wins f.bids f.r).find? (byU f.bids u) = some c) (hm : 1 ≤ m) (hz : (bAt f.bids c).c + m ≤ 99) :
    c ∈ wins (f.off c ((bAt f.bids c).c + m)).bids f.r ∧ payF (f.off c ((bAt f.bids c).c + m)).bids f.r u = payF f.bids f.r u := by
  have wu := win_u G.bg hf
  have c0 := wu.2.2.1
  have hc := wu.2.2.2.1
  have gc := G.bg.at c0 hc
  have hz' : 0 ≤ (bAt f.bids c).c + m ∧ (bAt f.bids c).c + m ≤ 99 := ⟨by omega, hz⟩
  have ob := off_best G c0 hc hz'
  have ot := off_tops G c0 hc hz'
  have w1 := wins_is G.bg (r := f.r)
  have w2 := wins_is (G.off c0 hc hz').bg (r := f.r)
  have wl := wit_le G.bg (r := f.r) (c := c)
  have hwit : tops f.bids f.r ≤ wit f.bids f.r c := by rw [← w1.2.1]; exact best_ge G.bg w1.1 (by simpa using wu.1)
  have t0 := (tops_bd G (r := f.r)).1
  have e1 := ob.1 (by omega)
  have hin := (won_in (G.off c0 hc hz').bg (r := f.r) (c := c) w2.1 w2.2.1).1 (by omega)
  refine ⟨hin, ?_⟩
  have eu : ∀ x : Int, 0 ≤ x → byU (f.off c ((bAt f.bids c).c + m)).bids u x = byU f.bids u x := fun x x0 => by
    have := bAt_set (L := f.bids) (b := { bAt f.bids c with c := (bAt f.bids c).c + m }) c0 hc x0
    simp only [byU, Fs.off, this]
    by_cases h : x = c
    · subst h; rw [if_pos rfl]
    · rw [if_neg h]
  -- the winner in the other fair
  have hf2 : (wins (f.off c ((bAt f.bids c).c + m)).bids f.r).find? (byU (f.off c ((bAt f.bids c).c + m)).bids u) = some c := by
    have hb : byU (f.off c ((bAt f.bids c).c + m)).bids u c = true := by rw [eu c c0]; simp [byU, wu.2.1]
    cases h : (wins (f.off c ((bAt f.bids c).c + m)).bids f.r).find? (byU (f.off c ((bAt f.bids c).c + m)).bids u) with
    | none =>
      rw [List.find?_eq_none] at h
      exact absurd hb (h c hin)
    | some y =>
      have wy := win_u (G.off c0 hc hz').bg h
      rw [wy.2.2.2.2.1 c hin (by simpa [byU] using hb)]
  have hn : (bsT (f.off c ((bAt f.bids c).c + m)).bids (fun s => !s.any (byU (f.off c ((bAt f.bids c).c + m)).bids u)) (allS f.r (f.off c ((bAt f.bids c).c + m)).bids)).2 = (bsT f.bids (fun s => !s.any (byU f.bids u)) (allS f.r f.bids)).2 := by
    have G' := (G.off c0 hc hz').bg
    have io : ∀ s, isS f.r (f.off c ((bAt f.bids c).c + m)).bids s = isS f.r f.bids s := fun s => isS_off c0 hc
    have pmo : ∀ s, isS f.r f.bids s = true → (s.any (byU (f.off c ((bAt f.bids c).c + m)).bids u)) = s.any (byU f.bids u) := fun s hs => by
      rw [Bool.eq_iff_iff, List.any_eq_true, List.any_eq_true]
      constructor
      · rintro ⟨x, h1, h2⟩; exact ⟨x, h1, by rw [← eu x (isS_mem hs x h1).1]; exact h2⟩
      · rintro ⟨x, h1, h2⟩; exact ⟨x, h1, by rw [eu x (isS_mem hs x h1).1]; exact h2⟩
    have po : ∀ s, isS f.r f.bids s = true → (!s.any (byU f.bids u)) = true → prc (f.off c ((bAt f.bids c).c + m)).bids s = prc f.bids s := fun s hs hp => by
      have q := prc_off (L := f.bids) (z := (bAt f.bids c).c + m) c0 hc (fun x hx => (isS_mem hs x hx).1) (asc_of (isS_iff.1 hs).2)
      refine (show prc (f.off c ((bAt f.bids c).c + m)).bids s = _ from q).trans ?_
      rw [if_neg, Int.add_zero]
      intro hcs
      simp only [Bool.not_eq_true', List.any_eq_false] at hp
      exact hp c hcs (by simp [byU, wu.2.1])
    rcases best_at G.bg (r := f.r) (pm := fun s => !s.any (byU f.bids u)) with ⟨_, _, a3⟩ | ⟨a1, a2, a3, _⟩
    · have := a3 [] isS_nil; cases this
    · rcases best_at G' (r := f.r) (pm := fun s => !s.any (byU (f.off c ((bAt f.bids c).c + m)).bids u)) with ⟨_, _, b3⟩ | ⟨b1, b2, b3, _⟩
      · have := b3 [] isS_nil; cases this
      · rw [io] at b1
        have b2' := b2
        simp only [pmo _ b1] at b2'
        have g1 := best_ge G.bg (r := f.r) (pm := fun s => !s.any (byU f.bids u)) b1 b2'
        have a2' := a2
        try simp only at a2'
        have g2 := best_ge G' (r := f.r) (pm := fun s => !s.any (byU (f.off c ((bAt f.bids c).c + m)).bids u)) (by rw [io]; exact a1) (by simp only [pmo _ a1]; exact a2')
        rw [po _ a1 a2'] at g2
        rw [po _ b1 b2'] at b3
        omega
  unfold payF
  rw [hf, hf2]
  simp only
  rw [hn]
  have ec : (bAt (f.off c ((bAt f.bids c).c + m)).bids c).c = (bAt f.bids c).c + m := by
    have := bAt_set (L := f.bids) (b := { bAt f.bids c with c := (bAt f.bids c).c + m }) c0 hc c0
    rw [if_pos rfl] at this
    show (bAt (f.bids.set c.toNat _) c).c = _
    rw [this]
  have e5 : tops (f.off c ((bAt f.bids c).c + m)).bids f.r = tops f.bids f.r + m := by
    rw [ot.1, ot.2, e1, ob.2.2]
    unfold mx; split <;> split <;> omega
  rw [ec, e5]
  omega
end
end Go.Proofs.YtfagcnokdnanpaaGreat.S

